/-
  The document's Answers, in plain words: level by level, of each place that is come to for the first time the least way. A map whose size is told, and a range over it. The document's keys of a state and what is left.
-/
import Derived.Test.YtgldbliohpfljaaGreatDoorInRefAll
import Derived.Test.YtgldbliohpfljaaGreatDoorPcGoodAll
import Derived.Maps.RangeWalk
import Derived.Maps.Ext
namespace Go.Proofs.YtgldbliohpfljaaGreatDoor
section
namespace Pa
variable {next : Nat → List Nat} {wt : Nat × Nat → Nat → Nat} {most : Nat}
/-- a good way of so many inputs to a place -/
def Lev (next : Nat → List Nat) (wt : Nat × Nat → Nat → Nat) (most d : Nat) (p : Nat × Nat) (q : List Nat) : Prop := q.length = d ∧ Pr.Fine next wt most (0, 0) q ∧ Pr.go next wt (0, 0) q = p
theorem Lev.nil : Lev next wt most 0 (0, 0) [] := ⟨rfl, trivial, rfl⟩
theorem Lev.zero {p : Nat × Nat} {q : List Nat} (h : Lev next wt most 0 p q) : p = (0, 0) ∧ q = [] := by
  obtain ⟨h1, _, h3⟩ := h
  have : q = [] := List.length_eq_zero_iff.1 h1
  subst this
  exact ⟨h3.symm, rfl⟩
theorem Lev.snoc {d i : Nat} {p : Nat × Nat} {q : List Nat} (h : Lev next wt most d p q) (hi : i < (next p.1).length) (hw : wt p i ≤ most) : Lev next wt most (d + 1) (Pr.step next wt p i) (q ++ [i]) := by
  obtain ⟨h1, h2, h3⟩ := h
  refine ⟨by simp [h1], (Pr.fine_append _ _ _).2 ⟨h2, ?_⟩, ?_⟩
  · rw [h3]; exact ⟨hi, hw, trivial⟩
  · rw [Pr.go_append, h3]; rfl
theorem Lev.split {d : Nat} {y : Nat × Nat} {q : List Nat} (h : Lev next wt most (d + 1) y q) : ∃ m i x, q = m ++ [i] ∧ Lev next wt most d x m ∧ i < (next x.1).length ∧ wt x i ≤ most ∧ y = Pr.step next wt x i := by
  obtain ⟨h1, h2, h3⟩ := h
  rcases List.eq_nil_or_concat q with rfl | ⟨m, i, rfl⟩
  · simp at h1
  · rw [List.concat_eq_append] at h1 h2 h3 ⊢
    obtain ⟨g1, g2⟩ := (Pr.fine_append _ _ _).1 h2
    exact ⟨m, i, _, rfl, ⟨by simpa using h1, g1, rfl⟩, g2.1, g2.2.1, by rw [← h3, Pr.go_append]; rfl⟩
theorem broke_split {l : List Nat} (h : Pr.Broke next wt most l) : ∃ m i x, l = m ++ [i] ∧ Lev next wt most m.length x m ∧ i < (next x.1).length ∧ most < wt x i := by
  obtain ⟨m, i, rfl, h1, h2, h3⟩ := h
  exact ⟨m, i, _, rfl, ⟨rfl, h1, rfl⟩, h2, h3⟩
theorem broke_of {d i : Nat} {x : Nat × Nat} {m : List Nat} (h : Lev next wt most d x m) (hi : i < (next x.1).length) (hw : most < wt x i) : Pr.Broke next wt most (m ++ [i]) := by
  obtain ⟨h1, h2, h3⟩ := h
  exact ⟨m, i, rfl, h2, by rw [h3]; exact hi, by rw [h3]; exact hw⟩
/-- was a place come to ahead of a level? -/
def Ahead (next : Nat → List Nat) (wt : Nat × Nat → Nat → Nat) (most d : Nat) (p : Nat × Nat) : Prop := ∃ d' q, d' < d ∧ Lev next wt most d' p q
/-- a level: f tells the new places' least ways, seen which places were come to so far -/
structure LInv (next : Nat → List Nat) (wt : Nat × Nat → Nat → Nat) (most d : Nat) (f : Nat × Nat → Option (List Nat)) (seen : Nat × Nat → Prop) : Prop where
  way : ∀ p q, f p = some q → Lev next wt most d p q ∧ ¬ Ahead next wt most d p ∧ ∀ q', Lev next wt most d p q' → Pc.le q q'
  all : ∀ p q', Lev next wt most d p q' → ¬ Ahead next wt most d p → ∃ q, f p = some q
  seen_ : ∀ p, seen p ↔ Ahead next wt most (d + 1) p
  good : ∀ l, Pr.Broke next wt most l → d < l.length
theorem LInv.start (f : Nat × Nat → Option (List Nat)) (seen : Nat × Nat → Prop) (hf : f (0, 0) = some []) (hf2 : ∀ p, p ≠ (0, 0) → f p = none) (hs : ∀ p, seen p ↔ p = (0, 0)) : LInv next wt most 0 f seen := by
  refine ⟨fun p q h => ?_, fun p q' h _ => ?_, fun p => ?_, fun l h => ?_⟩
  · by_cases e : p = (0, 0)
    · subst e
      rw [hf] at h
      cases h
      exact ⟨Lev.nil, fun ⟨_, _, h, _⟩ => by omega, fun q' h' => .inl h'.zero.2.symm⟩
    · rw [hf2 p e] at h; cases h
  · rw [h.zero.1]; exact ⟨_, hf⟩
  · rw [hs]
    constructor
    · rintro rfl; exact ⟨0, [], by omega, Lev.nil⟩
    · rintro ⟨d', q, h1, h2⟩
      obtain rfl : d' = 0 := by omega
      exact h2.zero.1
  · obtain ⟨m, i, _, rfl, _⟩ := broke_split h
    simp
/-- what is found while a level is gone through: V tells which places and inputs were looked at -/
structure GInv (next : Nat → List Nat) (wt : Nat × Nat → Nat → Nat) (most : Nat) (f g : Nat × Nat → Option (List Nat)) (seen : Nat × Nat → Prop) (b : Option (List Nat)) (V : Nat × Nat → Nat → Prop) : Prop where
  from_ : ∀ y q, g y = some q → ¬ seen y ∧ ∃ x i p, V x i ∧ f x = some p ∧ i < (next x.1).length ∧ wt x i ≤ most ∧ y = Pr.step next wt x i ∧ q = p ++ [i]
  to_ : ∀ x i p, V x i → f x = some p → i < (next x.1).length → wt x i ≤ most → ¬ seen (Pr.step next wt x i) → ∃ q, g (Pr.step next wt x i) = some q ∧ Pc.le q (p ++ [i])
  bfrom : ∀ q, b = some q → ∃ x i p, V x i ∧ f x = some p ∧ i < (next x.1).length ∧ most < wt x i ∧ q = p ++ [i]
  bto : ∀ x i p, V x i → f x = some p → i < (next x.1).length → most < wt x i → ∃ q, b = some q ∧ Pc.le q (p ++ [i])
theorem GInv.start (f : Nat × Nat → Option (List Nat)) (seen : Nat × Nat → Prop) : GInv next wt most f (fun _ => none) seen none (fun _ _ => False) :=
  ⟨fun _ _ h => (by cases h), fun _ _ _ h => h.elim, fun _ h => (by cases h), fun _ _ _ h => h.elim⟩
theorem GInv.same {f g : Nat × Nat → Option (List Nat)} {seen : Nat × Nat → Prop} {b : Option (List Nat)} {V V' : Nat × Nat → Nat → Prop} (h : GInv next wt most f g seen b V) (h1 : ∀ x i, V x i → V' x i) (h2 : ∀ x i p, V' x i → f x = some p → i < (next x.1).length → V x i) : GInv next wt most f g seen b V' := by
  refine ⟨fun y q hy => ?_, fun x i p hv hf hi => h.to_ x i p (h2 x i p hv hf hi) hf hi, fun q hq => ?_, fun x i p hv hf hi => h.bto x i p (h2 x i p hv hf hi) hf hi⟩
  · obtain ⟨a, x, i, p, hv, r⟩ := h.from_ y q hy
    exact ⟨a, x, i, p, h1 _ _ hv, r⟩
  · obtain ⟨x, i, p, hv, r⟩ := h.bfrom q hq
    exact ⟨x, i, p, h1 _ _ hv, r⟩
/-- one more is looked at -/
def Also (V : Nat × Nat → Nat → Prop) (x : Nat × Nat) (i : Nat) : Nat × Nat → Nat → Prop := fun y j => V y j ∨ (y = x ∧ j = i)
/-- a bad one: it is the best so far -/
theorem GInv.bad {f g : Nat × Nat → Option (List Nat)} {seen : Nat × Nat → Prop} {b : Option (List Nat)} {V : Nat × Nat → Nat → Prop} {x : Nat × Nat} {i : Nat} {p : List Nat} (h : GInv next wt most f g seen b V) (hf : f x = some p) (hi : i < (next x.1).length) (hw : most < wt x i) (hb : ∀ q, b = some q → Pc.lt (p ++ [i]) q) : GInv next wt most f g seen (some (p ++ [i])) (Also V x i) := by
  refine ⟨fun y q hy => ?_, fun x' i' p' hv hf' hi' hw' => ?_, fun q hq => ?_, fun x' i' p' hv hf' hi' hw' => ?_⟩
  · obtain ⟨a, x', i', p', hv, r⟩ := h.from_ y q hy
    exact ⟨a, x', i', p', .inl hv, r⟩
  · rcases hv with hv | ⟨rfl, rfl⟩
    · exact h.to_ x' i' p' hv hf' hi' hw'
    · omega
  · cases hq
    exact ⟨x, i, p, .inr ⟨rfl, rfl⟩, hf, hi, hw, rfl⟩
  · refine ⟨_, rfl, ?_⟩
    rcases hv with hv | ⟨rfl, rfl⟩
    · obtain ⟨q, hq, hle⟩ := h.bto x' i' p' hv hf' hi' hw'
      exact .inr (Pc.lt_of_le (hb q hq) hle)
    · rw [hf] at hf'; cases hf'; exact .inl rfl
/-- a bad one that is no better -/
theorem GInv.badno {f g : Nat × Nat → Option (List Nat)} {seen : Nat × Nat → Prop} {r : List Nat} {V : Nat × Nat → Nat → Prop} {x : Nat × Nat} {i : Nat} {p : List Nat} (h : GInv next wt most f g seen (some r) V) (hf : f x = some p) (hw : most < wt x i) (hb : ¬ Pc.lt (p ++ [i]) r) : GInv next wt most f g seen (some r) (Also V x i) := by
  refine ⟨fun y q hy => ?_, fun x' i' p' hv hf' hi' hw' => ?_, fun q hq => ?_, fun x' i' p' hv hf' hi' hw' => ?_⟩
  · obtain ⟨a, x', i', p', hv, r⟩ := h.from_ y q hy
    exact ⟨a, x', i', p', .inl hv, r⟩
  · rcases hv with hv | ⟨rfl, rfl⟩
    · exact h.to_ x' i' p' hv hf' hi' hw'
    · omega
  · obtain ⟨x', i', p', hv, r⟩ := h.bfrom q hq
    exact ⟨x', i', p', .inl hv, r⟩
  · rcases hv with hv | ⟨rfl, rfl⟩
    · exact h.bto x' i' p' hv hf' hi' hw'
    · rw [hf] at hf'; cases hf'
      refine ⟨r, rfl, ?_⟩
      rcases Pc.lt_tri (p ++ [i']) r with e | e | e
      · exact .inl e.symm
      · exact absurd e hb
      · exact .inr e
/-- a way to a new place, or a better one -/
theorem GInv.put {f g g' : Nat × Nat → Option (List Nat)} {seen : Nat × Nat → Prop} {b : Option (List Nat)} {V : Nat × Nat → Nat → Prop} {x : Nat × Nat} {i : Nat} {p : List Nat} (h : GInv next wt most f g seen b V) (hf : f x = some p) (hi : i < (next x.1).length) (hw : wt x i ≤ most) (hs : ¬ seen (Pr.step next wt x i)) (hb : ∀ q, g (Pr.step next wt x i) = some q → Pc.lt (p ++ [i]) q) (hg1 : g' (Pr.step next wt x i) = some (p ++ [i])) (hg2 : ∀ y, y ≠ Pr.step next wt x i → g' y = g y) : GInv next wt most f g' seen b (Also V x i) := by
  refine ⟨fun y q hy => ?_, fun x' i' p' hv hf' hi' hw' hs' => ?_, fun q hq => ?_, fun x' i' p' hv hf' hi' hw' => ?_⟩
  · by_cases e : y = Pr.step next wt x i
    · subst e
      rw [hg1] at hy
      cases hy
      exact ⟨hs, x, i, p, .inr ⟨rfl, rfl⟩, hf, hi, hw, rfl, rfl⟩
    · rw [hg2 y e] at hy
      obtain ⟨a, x', i', p', hv, r⟩ := h.from_ y q hy
      exact ⟨a, x', i', p', .inl hv, r⟩
  · rcases hv with hv | ⟨rfl, rfl⟩
    · obtain ⟨q, hq, hle⟩ := h.to_ x' i' p' hv hf' hi' hw' hs'
      by_cases e : Pr.step next wt x' i' = Pr.step next wt x i
      · rw [e] at hq ⊢
        exact ⟨_, hg1, .inr (Pc.lt_of_le (hb q hq) hle)⟩
      · exact ⟨q, by rw [hg2 _ e]; exact hq, hle⟩
    · rw [hf] at hf'; cases hf'; exact ⟨_, hg1, .inl rfl⟩
  · obtain ⟨x', i', p', hv, r⟩ := h.bfrom q hq
    exact ⟨x', i', p', .inl hv, r⟩
  · rcases hv with hv | ⟨rfl, rfl⟩
    · exact h.bto x' i' p' hv hf' hi' hw'
    · omega
/-- a way that is passed by: to a place that was seen, or no better -/
theorem GInv.pass {f g : Nat × Nat → Option (List Nat)} {seen : Nat × Nat → Prop} {b : Option (List Nat)} {V : Nat × Nat → Nat → Prop} {x : Nat × Nat} {i : Nat} {p : List Nat} (h : GInv next wt most f g seen b V) (hf : f x = some p) (hw : wt x i ≤ most) (hs : seen (Pr.step next wt x i) ∨ ∃ q, g (Pr.step next wt x i) = some q ∧ ¬ Pc.lt (p ++ [i]) q) : GInv next wt most f g seen b (Also V x i) := by
  refine ⟨fun y q hy => ?_, fun x' i' p' hv hf' hi' hw' hs' => ?_, fun q hq => ?_, fun x' i' p' hv hf' hi' hw' => ?_⟩
  · obtain ⟨a, x', i', p', hv, r⟩ := h.from_ y q hy
    exact ⟨a, x', i', p', .inl hv, r⟩
  · rcases hv with hv | ⟨rfl, rfl⟩
    · exact h.to_ x' i' p' hv hf' hi' hw' hs'
    · rw [hf] at hf'; cases hf'
      rcases hs with hs | ⟨q, hq, hb⟩
      · exact absurd hs hs'
      · refine ⟨q, hq, ?_⟩
        rcases Pc.lt_tri (p ++ [i']) q with e | e | e
        · exact .inl e.symm
        · exact absurd e hb
        · exact .inr e
  · obtain ⟨x', i', p', hv, r⟩ := h.bfrom q hq
    exact ⟨x', i', p', .inl hv, r⟩
  · rcases hv with hv | ⟨rfl, rfl⟩
    · exact h.bto x' i' p' hv hf' hi' hw'
    · omega
/-- who leads to a new place, or to a bad scan, was not come to ahead -/
theorem LInv.fresh {d : Nat} {f : Nat × Nat → Option (List Nat)} {seen : Nat × Nat → Prop} (h : LInv next wt most d f seen) {x : Nat × Nat} {i : Nat} (hi : i < (next x.1).length) (hx : (wt x i ≤ most ∧ ¬ seen (Pr.step next wt x i)) ∨ most < wt x i) : ¬ Ahead next wt most d x := by
  rintro ⟨d', q, h1, h2⟩
  rcases hx with ⟨hw, hs⟩ | hw
  · exact hs ((h.seen_ _).2 ⟨d' + 1, q ++ [i], by omega, h2.snoc hi hw⟩)
  · have := h.good _ (broke_of h2 hi hw)
    rw [List.length_append, h2.1] at this
    simp at this
    omega
/-- a level that was gone through, and nothing bad found: the next one -/
theorem GInv.deeper {d : Nat} {f g : Nat × Nat → Option (List Nat)} {seen seen' : Nat × Nat → Prop} {V : Nat × Nat → Nat → Prop} (h : LInv next wt most d f seen) (k : GInv next wt most f g seen none V) (hV : ∀ x i p, f x = some p → i < (next x.1).length → V x i) (hs : ∀ p, seen' p ↔ (seen p ∨ ∃ q, g p = some q)) : LInv next wt most (d + 1) g seen' := by
  have hstep : ∀ y q', Lev next wt most (d + 1) y q' → ¬ seen y → ∃ q, g y = some q ∧ Pc.le q q' := fun y q' hl hn => by
    obtain ⟨m, i, x, rfl, h1, h2, h3, rfl⟩ := hl.split
    have hfr := h.fresh h2 (.inl ⟨h3, hn⟩)
    obtain ⟨p, hp⟩ := h.all x m h1 hfr
    obtain ⟨q, hq, hle⟩ := k.to_ x i p (hV x i p hp h2) hp h2 h3 hn
    exact ⟨q, hq, Pc.le_trans hle (Pc.le_snoc ((h.way x p hp).2.2 m h1) i)⟩
  refine ⟨fun y q hy => ?_, fun y q' hl ha => ?_, fun y => ?_, fun l hl => ?_⟩
  · obtain ⟨hn, x, i, p, _, h2, h3, h4, rfl, rfl⟩ := k.from_ y q hy
    refine ⟨(h.way x p h2).1.snoc h3 h4, fun ha => hn ((h.seen_ _).2 ha), fun q' hq' => ?_⟩
    obtain ⟨q0, e0, hle⟩ := hstep _ q' hq' hn
    rw [hy] at e0
    cases e0
    exact hle
  · obtain ⟨q, hq, _⟩ := hstep y q' hl (fun hn => ha ((h.seen_ _).1 hn))
    exact ⟨q, hq⟩
  · rw [hs]
    constructor
    · rintro (hn | ⟨q, hq⟩)
      · obtain ⟨d', q, h1, h2⟩ := (h.seen_ _).1 hn
        exact ⟨d', q, by omega, h2⟩
      · obtain ⟨_, x, i, p, _, h2, h3, h4, rfl, rfl⟩ := k.from_ y q hq
        exact ⟨d + 1, _, by omega, (h.way x p h2).1.snoc h3 h4⟩
    · rintro ⟨d', q, h1, h2⟩
      by_cases e : d' < d + 1
      · exact .inl ((h.seen_ _).2 ⟨d', q, e, h2⟩)
      · obtain rfl : d' = d + 1 := by omega
        by_cases hn : seen y
        · exact .inl hn
        · obtain ⟨q0, e0, _⟩ := hstep y q h2 hn
          exact .inr ⟨q0, e0⟩
  · have h1 := h.good l hl
    refine Classical.byContradiction fun hc => ?_
    have hle : l.length = d + 1 := by omega
    obtain ⟨m, i, x, rfl, h2, h3, h4⟩ := broke_split hl
    have hm : m.length = d := by simpa using hle
    rw [hm] at h2
    obtain ⟨p, hp⟩ := h.all x m h2 (h.fresh h3 (.inr h4))
    obtain ⟨q, hq, _⟩ := k.bto x i p (hV x i p hp h3) hp h3 h4
    cases hq
/-- a level that was gone through, and a bad one found: it is the least -/
theorem GInv.found {d : Nat} {f g : Nat × Nat → Option (List Nat)} {seen : Nat × Nat → Prop} {q : List Nat} {V : Nat × Nat → Nat → Prop} (h : LInv next wt most d f seen) (k : GInv next wt most f g seen (some q) V) (hV : ∀ x i p, f x = some p → i < (next x.1).length → V x i) : Pr.Broke next wt most q ∧ Pr.Least next wt most q := by
  obtain ⟨x, i, p, _, h2, h3, h4, rfl⟩ := k.bfrom q rfl
  have hl := (h.way x p h2).1
  refine ⟨broke_of hl h3 h4, fun l' hb hs => ?_⟩
  rw [← Pc.lt_slr] at hs
  have hd := h.good l' hb
  have hlen : (p ++ [i]).length = d + 1 := by simp [hl.1]
  have hle : l'.length ≤ d + 1 := by
    rcases hs with hs | ⟨hs, _⟩ <;> omega
  obtain ⟨m, j, y, rfl, g2, g3, g4⟩ := broke_split hb
  have hm : m.length = d := by simp at hd hle; omega
  rw [hm] at g2
  obtain ⟨r, hr⟩ := h.all y m g2 (h.fresh g3 (.inr g4))
  obtain ⟨q0, e0, hle0⟩ := k.bto y j r (hV y j r hr g3) hr g3 g4
  cases e0
  exact Pc.lt_irr _ (Pc.lt_of_le hs (Pc.le_trans hle0 (Pc.le_snoc ((h.way y r hr).2.2 m g2) j)))
theorem not_fine {most : Nat} : ∀ (l : List Nat) (p : Nat × Nat), Pr.InR next p.1 l → ¬ Pr.Fine next wt most p l → ∃ m j r, l = m ++ j :: r ∧ Pr.Fine next wt most p m ∧ j < (next (Pr.go next wt p m).1).length ∧ most < wt (Pr.go next wt p m) j
  | [], _, _, h => absurd trivial h
  | i :: l, p, hr, h => by
    by_cases hg : wt p i ≤ most
    · have hnf : ¬ Pr.Fine next wt most (Pr.step next wt p i) l := fun k => h ⟨hr.1, hg, k⟩
      obtain ⟨m, j, r, h1, h2, h3, h4⟩ := not_fine l (Pr.step next wt p i) hr.2 hnf
      exact ⟨i :: m, j, r, by rw [h1]; rfl, ⟨hr.1, hg, h2⟩, h3, h4⟩
    · exact ⟨[], i, l, rfl, trivial, hr.1, by show most < wt p i; omega⟩
/-- no new place: it holds -/
theorem LInv.held {d : Nat} {f : Nat × Nat → Option (List Nat)} {seen : Nat × Nat → Prop} (h : LInv next wt most d f seen) (hf : ∀ p, f p = none) : Pr.Held next wt most := by
  have key : ∀ (e : Nat) (x : Nat × Nat) (m : List Nat), Lev next wt most e x m → Ahead next wt most d x := by
    intro e
    induction e with
    | zero =>
      intro x m hl
      refine Classical.byContradiction fun ha => ?_
      obtain ⟨rfl, rfl⟩ := hl.zero
      by_cases hd : d = 0
      · subst hd
        obtain ⟨q, hq⟩ := h.all _ _ hl ha
        rw [hf] at hq; cases hq
      · exact ha ⟨0, [], by omega, hl⟩
    | succ e ih =>
      intro y m hl
      obtain ⟨m', i, x, rfl, h1, h2, h3, rfl⟩ := hl.split
      obtain ⟨d', q, h4, h5⟩ := ih x m' h1
      have h6 := h5.snoc h2 h3
      refine Classical.byContradiction fun ha => ?_
      by_cases hd : d' + 1 < d
      · exact ha ⟨d' + 1, _, hd, h6⟩
      · have : d' + 1 = d := by omega
        rw [this] at h6
        obtain ⟨q0, hq0⟩ := h.all _ _ h6 ha
        rw [hf] at hq0; cases hq0
  intro l hl
  refine Classical.byContradiction fun hn => ?_
  obtain ⟨m, j, r, rfl, h2, h3, h4⟩ := not_fine l (0, 0) hl hn
  obtain ⟨d', q, h5, h6⟩ := key m.length _ m ⟨rfl, h2, rfl⟩
  have := h.good _ (broke_of h6 h3 h4)
  rw [List.length_append, h6.1] at this
  simp at this
  omega
end Pa
end
section
open Go.RowKit Go.Maps
namespace Dm
variable {kt mt et : TypeId} {K : Type} {val : K → Value} {lit : K → Lit} {ok : K → Prop}
theorem tight {W : World} {b n : Nat} {D : DataW Value} (h : W.ownsMap Tryz.prog kt rd b n D) : W.ownsMap Tryz.prog kt rd b (Maps.size D) D := by
  obtain ⟨es, clock, hb, F, hs, rfl⟩ := h
  exact ⟨es, clock, hb, F, by simp [Maps.size, length_sorted], rfl⟩
/-- a map of n entries tells at each key what f tells -/
structure DX (kt : TypeId) (lit : K → Lit) (ok : K → Prop) (W : World) (b n : Nat) (f : K → Option Value) (D : DataW Value) : Prop where
  owns : W.ownsMap Tryz.prog kt rd b n D
  at_ : ∀ k x, ok k → f k = some x → ∀ z, D.atKey (lit k) z = .held x
  no : ∀ k, ok k → f k = none → Maps.has D (lit k) = false
  keys : ∀ kl, Maps.has D kl = true → ∃ k, ok k ∧ kl = lit k
  size : Maps.size D = n
theorem DX.made (W : World) : DX kt lit ok (W.alloc (.map #[] 0)) W.heap.size 0 (fun _ => none) (.map []) :=
  ⟨World.ownsMap_made _ _ _ _, fun _ _ _ h => (by cases h), fun _ _ _ => rfl, fun kl h => (by cases h), rfl⟩
theorem DX.dm {W : World} {b n : Nat} {f : K → Option Value} {D : DataW Value} (h : DX kt lit ok W b n f D) : DM kt lit ok W b n f := by
  refine ⟨D, h.owns, fun k hk => ?_⟩
  cases hf : f k with
  | some x => exact h.at_ k x hk hf _
  | none => exact atKey_of_not_has (h.no k hk hf) _
theorem DX.lt {W : World} {b n : Nat} {f : K → Option Value} {D : DataW Value} (h : DX kt lit ok W b n f D) : b < W.heap.size := h.owns.lt
theorem DX.kept {W W' : World} {b n : Nat} {f : K → Option Value} {D : DataW Value} (h : DX kt lit ok W b n f D) (hb : W'.heap[b]? = W.heap[b]?) : DX kt lit ok W' b n f D := by
  refine ⟨?_, h.at_, h.no, h.keys, h.size⟩
  obtain ⟨es, clock, h1, h2⟩ := h.owns
  exact ⟨es, clock, hb.trans h1, h2⟩
theorem DX.obj {W : World} {b n : Nat} {f : K → Option Value} {D : DataW Value} (h : DX kt lit ok W b n f D) : ∃ es clock, W.heap[b]? = some (.map es clock) := by
  obtain ⟨es, clock, h1, _⟩ := h.owns
  exact ⟨es, clock, h1⟩
/-- no entry at all -/
theorem DX.empty {W : World} {b : Nat} {f : K → Option Value} {D : DataW Value} (h : DX kt lit ok W b 0 f D) (k : K) (hk : ok k) : f k = none := by
  cases hf : f k with
  | none => rfl
  | some x =>
    have h1 := has_true_of_atKey (h.at_ k x hk hf)
    have h2 := h.size
    cases D with
    | map es =>
      rw [size_eq] at h2
      have : es = [] := List.length_eq_zero_iff.1 h2
      subst this
      cases h1
    | _ => cases h1
/-- some entry -/
theorem DX.any {W : World} {b n : Nat} {f : K → Option Value} {D : DataW Value} (hK : Kind kt K val lit ok) (h : DX kt lit ok W b n f D) (hn : 0 < n) : ∃ k x, ok k ∧ f k = some x := by
  obtain ⟨es, e, _, hkey⟩ := h.owns.entries hK.law
  have h2 := h.size
  subst e
  rw [size_eq] at h2
  obtain ⟨p, hp⟩ : ∃ p, p ∈ es := ⟨es[0], List.getElem_mem (by omega)⟩
  have hh : Maps.has (.map es) p.1 = true := List.any_eq_true.2 ⟨p, hp, WideAt.sameKey_self (hkey p hp)⟩
  obtain ⟨k, hk, e⟩ := h.keys _ hh
  cases hf : f k with
  | some x => exact ⟨k, x, hk, hf⟩
  | none =>
    have := h.no k hk hf
    rw [← e, hh] at this
    cases this
open Classical in
theorem DX.put (hK : Kind kt K val lit ok) (hu : Tryz.prog.underlying mt = some (.map kt et)) {W : World} {b n : Nat} {f : K → Option Value} {D : DataW Value} (h : DX kt lit ok W b n f D) (hn : n ≤ 1000000) (k : K) (x : Value) (hk : ok k) : ∃ W', (Instr.mapUpdate mt (.map (some b)) (val k) x).run Tryz.prog W = .ok () W' ∧ DX kt lit ok W' b (if (f k).isSome then n else n + 1) (fun q => if q = k then some x else f q) (D.put (lit k) (.held x)) ∧ W.grownBy W' (some b) := by
  obtain ⟨W', hrun, ho', hg⟩ := h.owns.update hK.law hu (by unfold maxLen; omega) (hK.key k hk) (show rd x = some (.held x, []) from rfl)
  have hsz : Maps.size (D.put (lit k) (.held x)) = if (f k).isSome then n else n + 1 := by
    rw [size_put (h.owns.tidy hK.law), h.size]
    cases hf : f k with
    | none => rw [h.no k hk hf]; rfl
    | some y => rw [has_true_of_atKey (h.at_ k y hk hf)]; rfl
  refine ⟨W', hrun, ⟨?_, fun q y hq hy z => ?_, fun q hq hy => ?_, fun kl hkl => ?_, hsz⟩, hg⟩
  · rw [← hsz]; exact tight ho'
  · by_cases e : q = k
    · subst e
      rw [if_pos rfl] at hy
      cases hy
      exact atKey_put_same h.owns.isMap (hK.law.key (hK.key q hq)) _ _
    · rw [if_neg e] at hy
      rw [atKey_put_other (fun c => e (hK.lit_inj hq hk c))]
      exact h.at_ q y hq hy z
  · by_cases e : q = k
    · subst e
      rw [if_pos rfl] at hy
      cases hy
    · rw [if_neg e] at hy
      rw [has_put_other (fun c => e (hK.lit_inj hq hk c))]
      exact h.no q hq hy
  · by_cases e : kl = lit k
    · exact ⟨k, hk, e⟩
    · rw [has_put_other e] at hkl
      exact h.keys kl hkl
section
variable (w : World) {ops : Array Oper} {rest : List Oper} {o : Oper} {a : Act} {Q : Exit → Act → World → Prop}
/-- a range under way: left tells which keys are still to come -/
structure RX (kt : TypeId) (lit : K → Lit) (ok : K → Prop) (W : World) (b r n : Nat) (f : K → Option Value) (D : DataW Value) (left : K → Prop) (cnt : Nat) : Prop where
  ranges : ∃ lf : Lit → Bool, W.ranges Tryz.prog kt rd b r n D lf cnt ∧ (∀ kl, lf kl = true → Maps.has D kl = true) ∧ ∀ k, ok k → (left k ↔ lf (lit k) = true)
  dx : DX kt lit ok W b n f D
theorem RX.kept {W W' : World} {b r n cnt : Nat} {f : K → Option Value} {D : DataW Value} {left : K → Prop} {row : Option Nat} (h : RX kt lit ok W b r n f D left cnt) (hg : W.grownBy W' row) (hb : some b ≠ row) (hr : some r ≠ row) : RX kt lit ok W' b r n f D left cnt := by
  obtain ⟨⟨lf, h1, h2, h3⟩, h4⟩ := h
  exact ⟨⟨lf, h1.kept hg hb hr, h2, h3⟩, h4.kept (hg.block b h4.lt hb)⟩
theorem RX.of {W W' : World} {b r n : Nat} {f : K → Option Value} {D : DataW Value} (hx : DX kt lit ok W b n f D) (hg : W.grownBy W' none) (h : W'.ranges Tryz.prog kt rd b r n D (Maps.has D) (Maps.size D)) : RX kt lit ok W' b r n f D (fun k => f k ≠ none) n := by
  refine ⟨⟨Maps.has D, ?_, fun _ h => h, fun k hk => ?_⟩, hx.kept (hg.block b hx.lt (by simp))⟩
  · rw [hx.size] at h; exact h
  · cases hf : f k with
    | none => rw [hx.no k hk hf]; simp
    | some x => rw [has_true_of_atKey (hx.at_ k x hk hf)]; simp
theorem RX.left_eq {W : World} {b r n cnt : Nat} {f : K → Option Value} {D : DataW Value} {left : K → Prop} (h : RX kt lit ok W b r n f D left cnt) : W.rangeLeft b r = cnt := by
  obtain ⟨⟨lf, h1, _⟩, _⟩ := h
  exact h1.left_eq
theorem RX.lt {W : World} {b r n cnt : Nat} {f : K → Option Value} {D : DataW Value} {left : K → Prop} (h : RX kt lit ok W b r n f D left cnt) : b < W.heap.size ∧ r < W.heap.size ∧ r ≠ b := by
  obtain ⟨⟨lf, h1, _⟩, _⟩ := h
  exact ⟨h1.owns.lt, h1.lt, h1.ne⟩
/-- the step of a range -/
theorem next_dx (hK : Kind kt K val lit ok) (hg : o.guard = none) (it : Operand) (hop : o.op = Op.next it false) (b r n : Nat) (f : K → Option Value) (D : DataW Value) (left : K → Prop) (cnt : Nat)
    (hit : a.eval it = .pointer (some ⟨r, 0, none⟩)) (h : RX kt lit ok w b r n f D left cnt)
    (hDone : (∀ k, ok k → ¬ left k) → wpList Tryz.prog ops Q rest (a.put o.dst (.tuple #[.bool false])) w)
    (hMore : ∀ (k : K) (v : Value) (w' : World) (cnt' : Nat), ok k → left k → f k = some v → RX kt lit ok w' b r n f D (fun j => left j ∧ j ≠ k) cnt' → cnt' < cnt →
      w.grownBy w' (some r) → w'.heap.size = w.heap.size → (Instr.entry (.pointer (some ⟨r, 0, none⟩))).run Tryz.prog w' = .ok (.tuple #[val k, v]) w' → wpList Tryz.prog ops Q rest (a.put o.dst (.tuple #[.bool true, val k, v])) w') :
    wpList Tryz.prog ops Q (o :: rest) a w := by
  obtain ⟨⟨lf, h1, h2, h3⟩, h4⟩ := h
  refine wpList_plain hg fun K' hK' => ?_
  unfold Oper.wp
  rcases h1.next hK.law o.type with ⟨h0, hl, hrun⟩ | ⟨key, v, kl, y, w', cnt', hkey, hlk, hv, hat, hrun, hrg, hlt, hgr, hsz, hen⟩
  · simp [execOp, hop, hit, hrun, Result.andThen]
    exact hK' _ _ (hDone fun k hk hlf => by
      have := (h3 k hk).1 hlf
      rw [hl] at this
      cases this)
  · obtain ⟨k, hk, e⟩ := h4.keys kl (h2 kl hlk)
    subst e
    obtain rfl : key = val k := hK.law.inj hkey (hK.key k hk)
    obtain rfl : y = (.held v, []) := (Option.some.inj hv).symm
    have hf : f k = some v := by
      cases hf : f k with
      | some x =>
        have h5 := h4.at_ k x hk hf .nil
        rw [hat] at h5
        rw [DataW.held.inj h5]
      | none =>
        have := h4.no k hk hf
        rw [has_true_of_atKey hat] at this
        cases this
    simp [execOp, hop, hit, hrun, Result.andThen]
    refine hK' _ _ (hMore k v w' cnt' hk ((h3 k hk).2 hlk) hf ⟨⟨_, hrg, fun z hz => ?_, fun j hj => ?_⟩, h4.kept (hgr.block b h4.lt (by have := h1.ne; simp; omega))⟩ hlt hgr hsz hen)
    · simp only [Bool.and_eq_true] at hz
      exact h2 z hz.1
    · rw [h3 j hj]
      simp only [Bool.and_eq_true, Bool.not_eq_true']
      constructor
      · rintro ⟨h5, h6⟩
        refine ⟨h5, ?_⟩
        cases hs : (lit j).sameKey (lit k) with
        | false => rfl
        | true => exact absurd (hK.lit_inj hj hk (WideAt.sameKey_eq hs)) h6
      · rintro ⟨h5, h6⟩
        refine ⟨h5, fun e => ?_⟩
        subst e
        rw [WideAt.sameKey_self (hK.law.key (hK.key j hj))] at h6
        cases h6
end
end Dm
end
section
open Go.RowKit Go.Maps
namespace Dm
theorem key_At (p : Int × Int) (h : prOk p) : keyOf Tryz.prog 130 (prV p) = some (prK p) := by
  have w1 : (Lit.int .i64 p.1).wf = true := wf_small h.1.1 h.1.2
  have w2 : (Lit.int .i64 p.2).wf = true := wf_small h.2.1 h.2.2
  obtain ⟨m, hm⟩ : ∃ m, Tryz.prog.types.size = m + 1 := ⟨Tryz.prog.types.size - 1, by kernel_rfl⟩
  have c1 : Tryz.prog.cellsOf 3 = 1 := by kernel_rfl
  have c2 : Tryz.prog.cellsOf 130 = 2 := by kernel_rfl
  have kt : Tryz.prog.keyType 130 = true := by kernel_rfl
  unfold keyOf
  simp only [Tryz.underlying130]
  rw [kt]
  have hf : (prV p).formed Tryz.prog 130 = true := by
    unfold prV Value.formed
    simp only [Tryz.underlying130, c2]
    rfl
  rw [hf, hm]
  have hl : Tryz.prog.keyLits (m + 1 + 1) 130 (prV p).cells.toList = some [.int .i64 p.1, .int .i64 p.2] := by
    have e1 := lits_int m _ w1
    have e2 := lits_int m _ w2
    unfold Program.keyLits
    simp only [Tryz.underlying130]
    rw [if_pos (by rw [c2]; exact ⟨rfl, by kernel_rfl⟩)]
    simp [prV, Value.cells, c1, e1, e2]
  rw [hl]
  rfl
theorem kindAt : Kind 130 (Int × Int) prV prK prOk := ⟨Keyed.of_law (deep_law_laid (m := 9) (by kernel_rfl) (by decide) (of_decide_eq_true (by kernel_rfl)) (by kernel_rfl) (by kernel_rfl)), key_At, prV_inj⟩
end Dm
end
end Go.Proofs.YtgldbliohpfljaaGreatDoor
