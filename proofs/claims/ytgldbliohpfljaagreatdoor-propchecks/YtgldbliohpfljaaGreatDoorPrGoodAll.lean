/-
  The document's Paths, in plain words: level by level, what is told of a state is the way by which it is come to first. The document's Check, in plain words: of all ways whose last scan is bad the least, held against what package prop's search finds. The walk of package prop's Good.
-/
import Derived.Test.YtgldbliohpfljaaGreatDoorRcLeastAll
import Derived.Test.YtgldbliohpfljaaGreatDoorPrSearchAll
import Derived.Test.YtgldbliohpfljaaGreatDoorRgBaseAll
import Derived.Deep.RegionHeld3
namespace Go.Proofs.YtgldbliohpfljaaGreatDoor
section
namespace Rf
open Rc
/-- a way of d + 1 inputs to state t, of those looked at: ahead of state s, and of it by inputs ahead of i -/
def Cand (next : Nat → List Nat) (S d s i t : Nat) (c : List Nat) : Prop := ∃ s' i' : Nat, (s' < s ∨ (s' = s ∧ i' < i)) ∧ s' < S ∧ ((walk next S).at_ s').far = (d : Int) ∧ (next s')[i']? = some t ∧ c = pathOf (walk next S) d s' ++ [i']
theorem Cand.length {next : Nat → List Nat} {S d s i t : Nat} {c : List Nat} (h : Cand next S d s i t c) : c.length = d + 1 := by
  obtain ⟨_, _, _, _, _, _, rfl⟩ := h
  rw [List.length_append, pathOf_len]
  rfl
structure PInv (next : Nat → List Nat) (S : Nat) (out : List (Option (List Nat))) (d s i : Nat) : Prop where
  len : out.length = S
  near : ∀ t, t < S → ∀ n : Nat, ((walk next S).at_ t).far = (n : Int) → n ≤ d → out.getD t none = some (pathOf (walk next S) n t)
  none_ : ∀ t, t < S → ((walk next S).at_ t).far < 0 ∨ (d : Int) + 1 < ((walk next S).at_ t).far → out.getD t none = none
  part : ∀ t, t < S → ((walk next S).at_ t).far = (d : Int) + 1 → (out.getD t none = none ∧ ∀ c, ¬ Cand next S d s i t c) ∨ ∃ p, out.getD t none = some p ∧ Cand next S d s i t p ∧ ∀ c, Cand next S d s i t c → c = p ∨ bef p c = true
theorem getD_setO (l : List (Option (List Nat))) (n : Nat) (v : Option (List Nat)) (j : Nat) : (l.set n v).getD j none = if j = n ∧ n < l.length then v else l.getD j none := by
  rw [List.getD_eq_getElem?_getD, List.getD_eq_getElem?_getD, List.getElem?_set]
  by_cases h : n = j
  · subst h
    by_cases h2 : n < l.length
    · simp [h2]
    · simp [h2]
  · rw [if_neg h, if_neg (fun e => h e.1.symm)]
theorem PInv.start (next : Nat → List Nat) (S : Nat) (hS : 1 ≤ S) (hn : ∀ f s, f < S → s ∈ next f → s < S) : PInv next S ((List.replicate S none).set 0 (some [])) 0 0 0 := by
  have hw := walk_far next S hS hn
  have hg : ∀ j, ((List.replicate S (none : Option (List Nat))).set 0 (some [])).getD j none = if j = 0 then some [] else none := fun j => by
    rw [getD_setO]
    by_cases e : j = 0
    · rw [if_pos ⟨e, by simp; omega⟩, if_pos e]
    · rw [if_neg (fun h => e h.1), if_neg e, List.getD_eq_getElem?_getD, List.getElem?_replicate]
      split <;> rfl
  refine ⟨by simp, fun t ht n h0 hn0 => ?_, fun t ht h0 => ?_, fun t ht h0 => .inl ⟨?_, fun c hc => ?_⟩⟩
  · obtain rfl : n = 0 := by omega
    have := hw.one t ht (by simpa using h0)
    subst this
    rw [hg, if_pos rfl]
    rfl
  · rw [hg, if_neg (fun e => by subst e; rw [hw.zero] at h0; omega)]
  · rw [hg, if_neg (fun e => by subst e; rw [hw.zero] at h0; omega)]
  · obtain ⟨s', i', h, _⟩ := hc
    omega
/-- a way that is none of this level's next ones is passed by -/
theorem PInv.pass {next : Nat → List Nat} {S : Nat} {out : List (Option (List Nat))} {d s i t : Nat} (h : PInv next S out d s i) (hi : (next s)[i]? = some t) (hf : ¬ ((walk next S).at_ t).far = (d : Int) + 1) : PInv next S out d s (i + 1) := by
  refine ⟨h.len, h.near, h.none_, fun u hu hfu => ?_⟩
  have key : ∀ c, Cand next S d s (i + 1) u c → Cand next S d s i u c := fun c ⟨s', i', h1, h2, h3, h4, h5⟩ => by
    refine ⟨s', i', ?_, h2, h3, h4, h5⟩
    rcases h1 with h1 | ⟨rfl, h1⟩
    · exact .inl h1
    · by_cases e : i' = i
      · subst e
        rw [hi] at h4
        cases h4
        exact absurd hfu hf
      · exact .inr ⟨rfl, by omega⟩
  have mk : ∀ c, Cand next S d s i u c → Cand next S d s (i + 1) u c := fun c ⟨s', i', h1, h2, h3, h4, h5⟩ => ⟨s', i', by omega, h2, h3, h4, h5⟩
  rcases h.part u hu hfu with ⟨h1, h2⟩ | ⟨p, h1, h2, h3⟩
  · exact .inl ⟨h1, fun c hc => h2 c (key c hc)⟩
  · exact .inr ⟨p, h1, mk p h2, fun c hc => h3 c (key c hc)⟩
theorem cand_new {next : Nat → List Nat} {S d s i t u : Nat} {c : List Nat} (hi : (next s)[i]? = some t) (hc : Cand next S d s (i + 1) u c) : Cand next S d s i u c ∨ (u = t ∧ c = pathOf (walk next S) d s ++ [i]) := by
  obtain ⟨s', i', h1, h2, h3, h4, h5⟩ := hc
  rcases h1 with h1 | ⟨rfl, h1⟩
  · exact .inl ⟨s', i', .inl h1, h2, h3, h4, h5⟩
  · by_cases e : i' = i
    · subst e
      rw [hi] at h4
      cases h4
      exact .inr ⟨rfl, h5⟩
    · exact .inl ⟨s', i', .inr ⟨rfl, by omega⟩, h2, h3, h4, h5⟩
theorem cand_old {next : Nat → List Nat} {S d s i u : Nat} {c : List Nat} (hc : Cand next S d s i u c) : Cand next S d s (i + 1) u c := by
  obtain ⟨s', i', h1, h2, h3, h4, h5⟩ := hc
  exact ⟨s', i', by omega, h2, h3, h4, h5⟩
/-- a way that is the first one, or is ahead of the one that was told -/
theorem PInv.put {next : Nat → List Nat} {S : Nat} {out : List (Option (List Nat))} {d s i t : Nat} (h : PInv next S out d s i) (hs : s < S) (hd : ((walk next S).at_ s).far = (d : Int)) (ht : t < S) (hi : (next s)[i]? = some t) (hf : ((walk next S).at_ t).far = (d : Int) + 1)
    (hx : out.getD t none = none ∨ ∃ x, out.getD t none = some x ∧ bef (pathOf (walk next S) d s ++ [i]) x = true) : PInv next S (out.set t (some (pathOf (walk next S) d s ++ [i]))) d s (i + 1) := by
  have hg : ∀ j, (out.set t (some (pathOf (walk next S) d s ++ [i]))).getD j none = if j = t then some (pathOf (walk next S) d s ++ [i]) else out.getD j none := fun j => by
    rw [getD_setO]
    have := h.len
    by_cases e : j = t
    · rw [if_pos ⟨e, by omega⟩, if_pos e]
    · rw [if_neg (fun k => e k.1), if_neg e]
  refine ⟨by simp [h.len], fun u hu n hn hnd => ?_, fun u hu h0 => ?_, fun u hu hfu => ?_⟩
  · rw [hg, if_neg (fun e => by subst e; omega)]
    exact h.near u hu n hn hnd
  · rw [hg, if_neg (fun e => by subst e; omega)]
    exact h.none_ u hu h0
  · by_cases e : u = t
    · subst e
      refine .inr ⟨pathOf (walk next S) d s ++ [i], by rw [hg, if_pos rfl], ⟨s, i, .inr ⟨rfl, by omega⟩, hs, hd, hi, rfl⟩, fun c hc => ?_⟩
      rcases cand_new hi hc with hc | ⟨_, rfl⟩
      · rcases h.part u hu hfu with ⟨h1, h2⟩ | ⟨p, h1, h2, h3⟩
        · exact absurd hc (h2 c)
        · rcases hx with hx | ⟨x, hx, hb⟩
          · rw [hx] at h1; cases h1
          · rw [hx] at h1
            cases h1
            rcases h3 c hc with rfl | h4
            · exact .inr hb
            · exact .inr (bef_trans _ _ _ hb h4)
      · exact .inl rfl
    · rw [hg, if_neg e]
      rcases h.part u hu hfu with ⟨h1, h2⟩ | ⟨p, h1, h2, h3⟩
      · exact .inl ⟨h1, fun c hc => by
          rcases cand_new hi hc with hc | ⟨e2, _⟩
          · exact h2 c hc
          · exact e e2⟩
      · exact .inr ⟨p, h1, cand_old h2, fun c hc => by
          rcases cand_new hi hc with hc | ⟨e2, _⟩
          · exact h3 c hc
          · exact absurd e2 e⟩
/-- a way that is not ahead of the one that was told -/
theorem PInv.keep {next : Nat → List Nat} {S : Nat} {out : List (Option (List Nat))} {d s i t : Nat} {x : List Nat} (h : PInv next S out d s i) (hi : (next s)[i]? = some t) (hx : out.getD t none = some x) (hb : bef (pathOf (walk next S) d s ++ [i]) x = false) : PInv next S out d s (i + 1) := by
  refine ⟨h.len, h.near, h.none_, fun u hu hfu => ?_⟩
  by_cases e : u = t
  · subst e
    rcases h.part u hu hfu with ⟨h1, h2⟩ | ⟨p, h1, h2, h3⟩
    · rw [hx] at h1; cases h1
    · rw [hx] at h1
      cases h1
      refine .inr ⟨x, hx, cand_old h2, fun c hc => ?_⟩
      rcases cand_new hi hc with hc | ⟨_, rfl⟩
      · exact h3 c hc
      · rcases bef_tri (pathOf (walk next S) d s ++ [i]) x (by rw [h2.length, List.length_append, pathOf_len]; rfl) with h4 | h4 | h4
        · exact .inl h4
        · rw [hb] at h4; cases h4
        · exact .inr h4
  · rcases h.part u hu hfu with ⟨h1, h2⟩ | ⟨p, h1, h2, h3⟩
    · exact .inl ⟨h1, fun c hc => by
        rcases cand_new hi hc with hc | ⟨e2, _⟩
        · exact h2 c hc
        · exact e e2⟩
    · exact .inr ⟨p, h1, cand_old h2, fun c hc => by
        rcases cand_new hi hc with hc | ⟨e2, _⟩
        · exact h3 c hc
        · exact absurd e2 e⟩
/-- the next state -/
theorem PInv.next {next : Nat → List Nat} {S : Nat} {out : List (Option (List Nat))} {d s i : Nat} (h : PInv next S out d s i) (hi : ((walk next S).at_ s).far = (d : Int) → (next s).length ≤ i) : PInv next S out d (s + 1) 0 := by
  have key : ∀ u c, Cand next S d (s + 1) 0 u c → Cand next S d s i u c := fun u c ⟨s', i', h1, h2, h3, h4, h5⟩ => by
    refine ⟨s', i', ?_, h2, h3, h4, h5⟩
    by_cases e : s' = s
    · subst e
      have := (List.getElem?_eq_some_iff.1 h4).1
      exact .inr ⟨rfl, by have := hi h3; omega⟩
    · exact .inl (by omega)
  have mk : ∀ u c, Cand next S d s i u c → Cand next S d (s + 1) 0 u c := fun u c ⟨s', i', h1, h2, h3, h4, h5⟩ => ⟨s', i', .inl (by omega), h2, h3, h4, h5⟩
  refine ⟨h.len, h.near, h.none_, fun u hu hfu => ?_⟩
  rcases h.part u hu hfu with ⟨h1, h2⟩ | ⟨p, h1, h2, h3⟩
  · exact .inl ⟨h1, fun c hc => h2 c (key u c hc)⟩
  · exact .inr ⟨p, h1, mk u p h2, fun c hc => h3 c (key u c hc)⟩
/-- the next level -/
theorem PInv.deeper {next : Nat → List Nat} {S : Nat} {out : List (Option (List Nat))} {d : Nat} (hS : 1 ≤ S) (hn : ∀ f s, f < S → s ∈ next f → s < S) (h : PInv next S out d S 0) : PInv next S out (d + 1) 0 0 := by
  have hw := walk_far next S hS hn
  refine ⟨h.len, fun t ht n hf hnd => ?_, fun t ht h0 => h.none_ t ht (by omega), fun t ht hf => .inl ⟨h.none_ t ht (by omega), fun c ⟨s', i', h1, _⟩ => by omega⟩⟩
  by_cases e : n ≤ d
  · exact h.near t ht n hf e
  · obtain rfl : n = d + 1 := by omega
    have hf1 : ((walk next S).at_ t).far = (d : Int) + 1 := by rw [hf]; simp
    obtain ⟨p1, p2, p3⟩ := hw.par t ht (by omega)
    have hP : Cand next S d S 0 t (pathOf (walk next S) (d + 1) t) := ⟨_, _, .inl p1, p1, by omega, p3, rfl⟩
    rcases h.part t ht hf1 with ⟨_, h2⟩ | ⟨p, h1, h2, h3⟩
    · exact absurd hP (h2 _)
    · obtain ⟨s', i', _, s2, s3, s4, rfl⟩ := id h2
      have e1 := path_least next S hS hn d s' i' t s2 ht s3 hf1 s4
      rcases e1 with e1 | e1
      · rw [h1, e1]
      · rcases h3 _ hP with e2 | e2
        · rw [h1, e2]
        · rw [bef_asym _ _ e1] at e2
          cases e2
end Rf
end
section
namespace Pc
open Rc
/-- shorter, or of like length and ahead -/
def lt (a b : List Nat) : Prop := a.length < b.length ∨ (a.length = b.length ∧ bef a b = true)
theorem slr_lt : ∀ (a b : List Nat), Pr.SLr a b ↔ lt a.reverse b.reverse
  | [], [] => by simp [Pr.SLr, lt, bef]
  | [], y :: b => by simp [Pr.SLr, lt]
  | x :: a, [] => by simp [Pr.SLr, lt]
  | x :: a, y :: b => by
    have ih := slr_lt a b
    simp only [Pr.SLr, ih, List.reverse_cons]
    unfold lt
    simp only [List.length_append, List.length_reverse, List.length_singleton]
    constructor
    · rintro ((h | ⟨h, h2⟩) | ⟨rfl, h⟩)
      · left; omega
      · right; refine ⟨by omega, ?_⟩; rw [bef_snoc _ _ _ _ (by simpa using h), h2]; rfl
      · right; refine ⟨rfl, ?_⟩; rw [bef_snoc _ _ _ _ rfl]; simp [h]
    · rintro (h | ⟨h, h2⟩)
      · left; left; omega
      · rw [bef_snoc _ _ _ _ (by simp; omega), Bool.or_eq_true] at h2
        rcases h2 with h2 | h2
        · left; right; exact ⟨by omega, h2⟩
        · simp at h2; right; exact h2
theorem lt_slr (a b : List Nat) : lt a b ↔ Pr.SLr a.reverse b.reverse := by rw [slr_lt]; simp
theorem lt_trans {a b c : List Nat} (h : lt a b) (k : lt b c) : lt a c := (lt_slr _ _).2 (Pr.slr_trans _ _ _ ((lt_slr _ _).1 h) ((lt_slr _ _).1 k))
theorem lt_irr (a : List Nat) : ¬ lt a a := fun h => Pr.slr_irrefl _ ((lt_slr _ _).1 h)
theorem lt_tri (a b : List Nat) : a = b ∨ lt a b ∨ lt b a := by
  rcases Pr.slr_total a.reverse b.reverse with h | h | h
  · exact .inl (List.reverse_inj.1 h)
  · exact .inr (.inl ((lt_slr _ _).2 h))
  · exact .inr (.inr ((lt_slr _ _).2 h))
def le (a b : List Nat) : Prop := a = b ∨ lt a b
theorem le_len {a b : List Nat} (h : le a b) : a.length ≤ b.length := by
  rcases h with rfl | h | ⟨h, _⟩ <;> omega
theorem le_trans {a b c : List Nat} (h : le a b) (k : le b c) : le a c := by
  rcases h with rfl | h
  · exact k
  · rcases k with rfl | k
    · exact .inr h
    · exact .inr (lt_trans h k)
theorem lt_of_le {a b c : List Nat} (h : lt a b) (k : le b c) : lt a c := by
  rcases k with rfl | k
  · exact h
  · exact lt_trans h k
theorem le_snoc {a b : List Nat} (h : le a b) (i : Nat) : le (a ++ [i]) (b ++ [i]) := by
  rcases h with rfl | h
  · exact .inl rfl
  · refine .inr ((lt_slr _ _).2 ?_)
    rw [List.reverse_append, List.reverse_append]
    exact .inl ((lt_slr _ _).1 h)
theorem le_bef {a b : List Nat} (hl : a.length = b.length) (h : a = b ∨ bef a b = true) : le a b := h.imp id fun h => .inr ⟨hl, h⟩
theorem inr_append (next : Nat → List Nat) : ∀ (l m : List Nat) (s : Nat), Pr.InR next s (l ++ m) ↔ Pr.InR next s l ∧ Pr.InR next (go next s l) m
  | [], m, s => by simp [Pr.InR, go]
  | i :: l, m, s => by
    simp only [List.cons_append, Pr.InR, go, inr_append next l m, and_assoc]
theorem go_fst (next : Nat → List Nat) (wt : Nat × Nat → Nat → Nat) : ∀ (l : List Nat) (p : Nat × Nat), (Pr.go next wt p l).1 = go next p.1 l
  | [], _ => rfl
  | i :: l, p => by
    show (Pr.go next wt (Pr.step next wt p i) l).1 = _
    rw [go_fst next wt l]
    rfl
/-- of all ways to a state the one told is the least -/
theorem way_least (next : Nat → List Nat) (S : Nat) (hS : 1 ≤ S) (hn : ∀ f s, f < S → s ∈ next f → s < S) : ∀ (r : List Nat), Pr.InR next 0 r.reverse → ∃ n : Nat, go next 0 r.reverse < S ∧ ((walk next S).at_ (go next 0 r.reverse)).far = (n : Int) ∧ le (pathOf (walk next S) n (go next 0 r.reverse)) r.reverse
  | [], _ => ⟨0, hS, (walk_far next S hS hn).zero, .inl rfl⟩
  | i :: r, h => by
    rw [List.reverse_cons] at h ⊢
    rw [inr_append] at h
    obtain ⟨n, h1, h2, h3⟩ := way_least next S hS hn r h.1
    have hi : i < (next (go next 0 r.reverse)).length := h.2.1
    rw [go_snoc]
    generalize go next 0 r.reverse = t at *
    have e : (next t).getD i 0 = (next t)[i] := by simp [hi]
    have hm : (next t)[i] ∈ next t := List.getElem_mem hi
    have hu := hn t _ h1 hm
    have hnr := (walk_far next S hS hn).near t _ h1 (by omega) hm
    have hg : (next t)[i]? = some (next t)[i] := List.getElem?_eq_getElem hi
    rw [e]
    generalize (next t)[i] = u at *
    obtain ⟨m, hm⟩ : ∃ m : Nat, ((walk next S).at_ u).far = (m : Int) := ⟨((walk next S).at_ u).far.toNat, by omega⟩
    refine ⟨m, hu, hm, ?_⟩
    have hl := le_len h3
    rw [pathOf_len] at hl
    by_cases hmn : m = n + 1
    · subst hmn
      have := path_least next S hS hn n t i u h1 hu h2 (by rw [hm]; simp) hg
      exact le_trans (le_bef (by simp [pathOf_len]) this) (le_snoc h3 i)
    · refine .inr (.inl ?_)
      rw [pathOf_len, List.length_append]
      simp only [List.length_singleton]
      omega
theorem path_in {next : Nat → List Nat} {S : Nat} {q : Qu} (h : Far next S q) : ∀ (n s : Nat), s < S → (q.at_ s).far = n → Pr.InR next 0 (pathOf q n s)
  | 0, _, _, _ => trivial
  | n + 1, s, hs, hf => by
    obtain ⟨p1, p2, p3⟩ := h.par s hs (by omega)
    have ih := path_in h n (q.at_ s).frm p1 (by omega)
    have hg := (path_goes h n (q.at_ s).frm p1 (by omega)).1
    show Pr.InR next 0 (pathOf q n (q.at_ s).frm ++ [(q.at_ s).by_])
    rw [inr_append, hg]
    exact ⟨ih, (List.getElem?_eq_some_iff.1 p3).1, trivial⟩
/-- a way that is not good throughout has a first bad scan -/
theorem not_fine {next : Nat → List Nat} {wt : Nat × Nat → Nat → Nat} {row : Nat → List Bool} (hwt : ∀ p i, wt p i = if (row p.1).getD i false = true then 0 else 1) : ∀ (l : List Nat) (p : Nat × Nat), Pr.InR next p.1 l → ¬ Pr.Fine next wt 0 p l → ∃ m j r, l = m ++ j :: r ∧ Pr.InR next p.1 m ∧ j < (next (go next p.1 m)).length ∧ (row (go next p.1 m)).getD j false = false
  | [], _, _, h => absurd trivial h
  | i :: l, p, hr, h => by
    by_cases hg : (row p.1).getD i false = true
    · have hw : wt p i ≤ 0 := by rw [hwt, if_pos hg]; exact Nat.le_refl _
      have hnf : ¬ Pr.Fine next wt 0 (Pr.step next wt p i) l := fun k => h ⟨hr.1, hw, k⟩
      obtain ⟨m, j, r, h1, h2, h3, h4⟩ := not_fine hwt l (Pr.step next wt p i) hr.2 hnf
      exact ⟨i :: m, j, r, by rw [h1]; rfl, ⟨hr.1, h2⟩, h3, h4⟩
    · exact ⟨[], i, l, rfl, trivial, hr.1, Bool.eq_false_iff.2 hg⟩
/-- a way whose last scan is bad, and whose others lead to a state by its least way -/
def Bad (next : Nat → List Nat) (S : Nat) (row : Nat → List Bool) (s i : Nat) (q : List Nat) : Prop := ∃ n : Nat, s < S ∧ ((walk next S).at_ s).far = (n : Int) ∧ i < (next s).length ∧ (row s).getD i false = false ∧ q = pathOf (walk next S) n s ++ [i]
/-- the best so far: of the states ahead of s, and of state s the first k inputs -/
def Best (next : Nat → List Nat) (S : Nat) (row : Nat → List Bool) (b : Option (List Nat)) (s k : Nat) : Prop := match b with
  | none => ∀ s' i' c, (s' < s ∨ (s' = s ∧ i' < k)) → ¬ Bad next S row s' i' c
  | some q => (∃ s' i', Bad next S row s' i' q) ∧ ∀ s' i' c, (s' < s ∨ (s' = s ∧ i' < k)) → Bad next S row s' i' c → le q c
theorem Best.start (next : Nat → List Nat) (S : Nat) (row : Nat → List Bool) : Best next S row none 0 0 := fun s' i' c h => by omega
theorem Best.same {next : Nat → List Nat} {S : Nat} {row : Nat → List Bool} {b : Option (List Nat)} {s k s2 k2 : Nat} (h : Best next S row b s k) (hx : ∀ s' i' c, (s' < s2 ∨ (s' = s2 ∧ i' < k2)) → Bad next S row s' i' c → (s' < s ∨ (s' = s ∧ i' < k))) : Best next S row b s2 k2 := by
  cases b with
  | none => exact fun s' i' c h1 h2 => h s' i' c (hx s' i' c h1 h2) h2
  | some q => exact ⟨h.1, fun s' i' c h1 h2 => h.2 s' i' c (hx s' i' c h1 h2) h2⟩
theorem Best.far {next : Nat → List Nat} {S : Nat} {row : Nat → List Bool} {b : Option (List Nat)} {s : Nat} (h : Best next S row b s 0) (hf : ((walk next S).at_ s).far < 0) : Best next S row b (s + 1) 0 := h.same fun s' i' c h1 h2 => by
  obtain ⟨n, _, h3, _⟩ := h2
  by_cases e : s' = s
  · subst e; omega
  · omega
theorem Best.next {next : Nat → List Nat} {S : Nat} {row : Nat → List Bool} {b : Option (List Nat)} {s k : Nat} (h : Best next S row b s k) (hk : (next s).length ≤ k) : Best next S row b (s + 1) 0 := h.same fun s' i' c h1 h2 => by
  obtain ⟨n, _, _, h3, _⟩ := h2
  by_cases e : s' = s
  · subst e; omega
  · omega
theorem Best.good {next : Nat → List Nat} {S : Nat} {row : Nat → List Bool} {b : Option (List Nat)} {s i : Nat} (h : Best next S row b s i) (hg : (row s).getD i false = true) : Best next S row b s (i + 1) := h.same fun s' i' c h1 h2 => by
  obtain ⟨n, _, _, _, h3, _⟩ := h2
  by_cases e : s' = s ∧ i' = i
  · obtain ⟨rfl, rfl⟩ := e
    rw [hg] at h3; cases h3
  · omega
theorem Best.take {next : Nat → List Nat} {S : Nat} {row : Nat → List Bool} {b : Option (List Nat)} {s i : Nat} {q : List Nat} (h : Best next S row b s i) (hq : Bad next S row s i q) (hb : ∀ x, b = some x → lt q x) : Best next S row (some q) s (i + 1) := by
  refine ⟨⟨s, i, hq⟩, fun s' i' c h1 h2 => ?_⟩
  by_cases e : s' = s ∧ i' = i
  · obtain ⟨rfl, rfl⟩ := e
    obtain ⟨n, _, h3, _, _, rfl⟩ := h2
    obtain ⟨n', _, h4, _, _, rfl⟩ := hq
    have : n = n' := by omega
    subst this
    exact .inl rfl
  · cases b with
    | none => exact absurd h2 (h s' i' c (by omega))
    | some x => exact .inr (lt_of_le (hb x rfl) (h.2 s' i' c (by omega) h2))
theorem Best.keep {next : Nat → List Nat} {S : Nat} {row : Nat → List Bool} {s i : Nat} {q x : List Nat} (h : Best next S row (some x) s i) (hq : Bad next S row s i q) (hb : ¬ lt q x) : Best next S row (some x) s (i + 1) := by
  refine ⟨h.1, fun s' i' c h1 h2 => ?_⟩
  by_cases e : s' = s ∧ i' = i
  · obtain ⟨rfl, rfl⟩ := e
    obtain ⟨n, _, h3, _, _, rfl⟩ := h2
    obtain ⟨n', _, h4, _, _, rfl⟩ := hq
    have : n = n' := by omega
    subst this
    rcases lt_tri (pathOf (walk next S) n s' ++ [i']) x with h5 | h5 | h5
    · exact .inl h5.symm
    · exact absurd h5 hb
    · exact .inr h5
  · exact h.2 s' i' c (by omega) h2
theorem bad_of {next : Nat → List Nat} {S : Nat} {row : Nat → List Bool} (hS : 1 ≤ S) (hn : ∀ f s, f < S → s ∈ next f → s < S) {m : List Nat} {j : Nat} (hm : Pr.InR next 0 m) (hj : j < (next (go next 0 m)).length) (hb : (row (go next 0 m)).getD j false = false) : ∃ c, Bad next S row (go next 0 m) j c ∧ go next 0 m < S ∧ le c (m ++ [j]) := by
  obtain ⟨n, h1, h2, h3⟩ := way_least next S hS hn m.reverse (by rw [List.reverse_reverse]; exact hm)
  rw [List.reverse_reverse] at h1 h2 h3
  exact ⟨_, ⟨n, h1, h2, hj, hb, rfl⟩, h1, le_snoc h3 j⟩
theorem Best.none_ {next : Nat → List Nat} {S : Nat} {row : Nat → List Bool} {wt : Nat × Nat → Nat → Nat} (hS : 1 ≤ S) (hn : ∀ f s, f < S → s ∈ next f → s < S) (hwt : ∀ p i, wt p i = if (row p.1).getD i false = true then 0 else 1) (h : Best next S row none S 0) : Pr.Held next wt 0 := fun l hl => by
  refine Classical.byContradiction fun hf => ?_
  obtain ⟨m, j, r, rfl, h2, h3, h4⟩ := not_fine hwt l (0, 0) hl hf
  obtain ⟨c, h5, h6, _⟩ := bad_of hS hn h2 h3 h4
  exact h _ _ c (.inl h6) h5
theorem Best.some_ {next : Nat → List Nat} {S : Nat} {row : Nat → List Bool} {wt : Nat × Nat → Nat → Nat} {q : List Nat} (hS : 1 ≤ S) (hn : ∀ f s, f < S → s ∈ next f → s < S) (hwt : ∀ p i, wt p i = if (row p.1).getD i false = true then 0 else 1) (h : Best next S row (some q) S 0) : Pr.Broke next wt 0 q ∧ Pr.Least next wt 0 q := by
  obtain ⟨⟨s, i, n, h1, h2, h3, h4, hq⟩, hmin⟩ := h
  have hw := walk_far next S hS hn
  have hin := path_in hw n s h1 h2
  have hgo := (path_goes hw n s h1 h2).1
  refine ⟨⟨_, i, hq, ?_, by rw [go_fst, hgo]; exact h3, ?_⟩, ?_⟩
  · refine Classical.byContradiction fun hf => ?_
    obtain ⟨m, j, r, e, g2, g3, g4⟩ := not_fine hwt _ (0, 0) hin hf
    obtain ⟨c, g5, g6, g7⟩ := bad_of hS hn g2 g3 g4
    have g8 := le_len (hmin _ _ c (.inl g6) g5)
    have g9 := le_len g7
    rw [hq, e] at g8
    simp only [List.length_append, List.length_cons, List.length_nil] at g8 g9
    omega
  · rw [hwt, go_fst, hgo, h4, if_neg Bool.false_ne_true]
    exact Nat.one_pos
  · rintro l' ⟨m, j, rfl, g1, g2, g3⟩ hs
    rw [← lt_slr] at hs
    rw [go_fst] at g2
    have g4 : (row (go next 0 m)).getD j false = false := by
      rw [hwt, go_fst] at g3
      by_cases e : (row (go next 0 m)).getD j false = true
      · rw [if_pos e] at g3; exact absurd g3 (Nat.lt_irrefl _)
      · exact Bool.eq_false_iff.2 e
    obtain ⟨c, g5, g6, g7⟩ := bad_of hS hn (Pr.Fine.inr m (0, 0) g1) g2 g4
    exact lt_irr _ (lt_of_le hs (le_trans (hmin _ _ c (.inl g6) g5) g7))
end Pc
end
section
open Go.RowKit
@[go_sem] theorem field_is (a b : Value) (w : World) : (Instr.field 105 (.agg #[a, b]) 0).run Tryz.prog w = .ok a w := by kernel_rfl
/-- what told has made -/
structure ToldAt (W : World) (nv : Value) (ra : Option Addr) (rk rc n : Nat) (is : List Bool) (a b gi : Nat) : Prop where
  prg : W.heap[a]? = some (.cells #[nv, .slice ra rk rc] 83 (0, 0))
  lst : W.heap[b]? = some (.cells #[.slice (some ⟨gi, 0, none⟩) n n] 51 (0, 0))
  row : RowIs W gi 4 (is.map boolV)
theorem ToldAt.lt {W : World} {nv : Value} {ra : Option Addr} {rk rc n : Nat} {is : List Bool} {a b gi : Nat} (h : ToldAt W nv ra rk rc n is a b gi) : a < W.heap.size ∧ b < W.heap.size ∧ gi < W.heap.size := ⟨(Array.getElem?_eq_some_iff.1 h.prg).1, (Array.getElem?_eq_some_iff.1 h.lst).1, h.row.lt⟩
theorem ToldAt.kept {W W' : World} {nv : Value} {ra : Option Addr} {rk rc n : Nat} {is : List Bool} {a b gi : Nat} (h : ToldAt W nv ra rk rc n is a b gi) (ha : W'.heap[a]? = W.heap[a]?) (hb : W'.heap[b]? = W.heap[b]?) (hg : W'.heap[gi]? = W.heap[gi]?) : ToldAt W' nv ra rk rc n is a b gi := ⟨ha.trans h.prg, hb.trans h.lst, hg.trans h.row⟩
theorem ToldAt.tells {W : World} {nv : Value} {ra : Option Addr} {rk rc n : Nat} {is : List Bool} {a b gi : Nat} (h : ToldAt W nv ra rk rc n is a b gi) {ns : List Ld.Nme} (hn : NamesAt W nv ns) (hl : is.length = n) (hnn : n = ns.length) : E2.Tells (.func (.func 87) #[] #[.pointer (some ⟨a, 0, none⟩), .pointer (some ⟨b, 0, none⟩)]) (Sc.told ns is) W := by
  obtain ⟨a0, a1, _, _⟩ := two_cells h.prg
  refine ptells_told ns nv (.slice ra rk rc) is gi _ _ _ hn ⟨_, _, _, rfl⟩ (hl.trans hnn) a0 a1 ?_ h.row
  rw [Lib.cell_of_heap h.lst, hl]
  rfl
theorem told_made (nv : Value) (ra : Option Addr) (rk rc : Nat) (w6 : World) (is : List Bool) (gi n : Nat) (hrow : RowIs w6 gi 4 (is.map boolV)) :
    ToldAt ((w6.alloc (.cells #[nv, .slice ra rk rc] 83)).alloc (.cells #[.slice (some ⟨gi, 0, none⟩) n n] 51)) nv ra rk rc n is w6.heap.size (w6.heap.size + 1) gi := by
  obtain ⟨w7, hw7⟩ : ∃ w7, w7 = w6.alloc (.cells #[nv, .slice ra rk rc] 83) := ⟨_, rfl⟩
  have hz7 : w7.heap.size = w6.heap.size + 1 := by rw [hw7]; simp
  have hA : w7.heap[w6.heap.size]? = some (.cells #[nv, .slice ra rk rc] 83 (0, 0)) := by rw [hw7]; exact heap_alloc_new _ _
  rw [← hw7]
  have hb : Below w6.heap.size w6 (w7.alloc (.cells #[.slice (some ⟨gi, 0, none⟩) n n] 51)) := by
    have h1 : Below w6.heap.size w6 w7 := by rw [hw7]; exact (Below.refl _ _).alloc (Nat.le_refl _) _
    exact h1.alloc h1.size _
  exact ⟨(Below.heap_alloc _ _ _ (by omega)).trans hA, by rw [← hz7]; exact heap_alloc_new _ _, (hb.block _ hrow.lt).trans hrow⟩
/-- what a round of Good reads -/
def KG (bm : Nat) (nv rv : Value) (g s b I : Nat) (W : World) : Prop := W.cell? ⟨bm, 0, none⟩ = some nv ∧ W.cell? ⟨bm, 1, none⟩ = some rv ∧ W.cell? ⟨g, s, none⟩ = some (.slice (some ⟨b, 0, none⟩) I I)
theorem KG.below {bm g s b I : Nat} {nv rv : Value} {W W' : World} (h : KG bm nv rv g s b I W) (hb : Below W.heap.size W W') : KG bm nv rv g s b I W' := ⟨(hb.cell (World.block_lt_of_cell? _ _ h.1)).trans h.1, (hb.cell (World.block_lt_of_cell? _ _ h.2.1)).trans h.2.1, (hb.cell (World.block_lt_of_cell? _ _ h.2.2)).trans h.2.2⟩
theorem KG.set {bm g s b I : Nat} {nv rv : Value} {W : World} (c i : Nat) (v : Value) (h1 : bm ≠ c) (h2 : g ≠ c) (h : KG bm nv rv g s b I W) : KG bm nv rv g s b I (W.setCell ⟨c, i, none⟩ v) := ⟨cell_set_blk _ _ _ _ _ _ _ h1 h.1, cell_set_blk _ _ _ _ _ _ _ h1 h.2.1, cell_set_blk _ _ _ _ _ _ _ h2 h.2.2⟩
theorem KG.drew {bm g s b I : Nat} {nv rv : Value} {W : World} (h : KG bm nv rv g s b I W) : KG bm nv rv g s b I W.drew := h
/-- what Good comes to -/
def Gooded (w : World) (p : Ld.Prg) (x : Ex) (e : Ending) (w' : World) : Prop := Below w.heap.size w w' ∧ (if Pr.has p.names x then ∃ g us, e = .returned (.tuple #[.slice (some ⟨g, 0, none⟩) (Mc.total (Mc.parts p)) (Mc.total (Mc.parts p)), .nilIface]) ∧ us.length = Mc.total (Mc.parts p) ∧ GT w g (Mc.total (Mc.parts p)) (2 ^ (Ld.kindL p.names 1).length) us (Pr.goodRow p x (2 ^ (Ld.kindL p.names 1).length)) w' else e = .returned (.tuple #[.slice none 0 0, .iface 40 (.int .i64 7)]))
set_option maxHeartbeats 8000000 in
set_option maxRecDepth 100000 in
theorem Good_any (ok : Nat → Prop) (bm : Nat) (p : Ld.Prg) (x : Ex) (v : Value) (w : World) (hm : IsMach w bm p) (hck : Ld.check p = none) (hS : Mc.total (Mc.parts p) ≤ 4096) (hq : (Ld.kindL p.names 1).length ≤ 6) (h : IsEx ok w x v) (hlen : x.size ≤ 1000000) :
    Calls Tryz.prog 10 #[.pointer (some ⟨bm, 0, none⟩), v] w (Gooded w p x) := by
  obtain ⟨na, nk, nc, ra, rk, rc, hmv⟩ := hm.view hck hS
  obtain ⟨gN, uN, hna⟩ := hm.next
  have hI6 : 2 ^ (Ld.kindL p.names 1).length ≤ 64 := Nat.pow_le_pow_right (n := 2) (by decide) hq
  have HMV := hide hmv
  have HNA := hide hna
  have HX := hide h
  have pn := fun w a => ptrNe w a
  have hbl : bm < w.heap.size := hm.lt
  obtain ⟨p0, p1, hnm⟩ := hmv.prog w (Below.refl _ _)
  have HHN := hide (hasNames_any ok p.names _ (.slice ra rk rc) x v w hnm ⟨_, _, _, rfl⟩ h hlen)
  have HG : Hid (∀ e w', Gooded w p x e w' ↔ (Below w.heap.size w w' ∧ (if Pr.has p.names x then ∃ g us, e = .returned (.tuple #[.slice (some ⟨g, 0, none⟩) (Mc.total (Mc.parts p)) (Mc.total (Mc.parts p)), .nilIface]) ∧ us.length = Mc.total (Mc.parts p) ∧ GT w g (Mc.total (Mc.parts p)) (2 ^ (Ld.kindL p.names 1).length) us (Pr.goodRow p x (2 ^ (Ld.kindL p.names 1).length)) w' else e = .returned (.tuple #[.slice none 0 0, .iface 40 (.int .i64 7)])))) := fun _ _ => Iff.rfl
  obtain ⟨tu, yu, rfl⟩ := IsEx.iface x v h
  clear hmv hna hm hnm h
  go_enter Tryz.func10, Tryz.ntmps10
  go_wp2_with fail
  refine HHN.out.mono ?_
  rintro e w1 ⟨rfl, hb1⟩
  have HB1 := hide hb1
  cases hhas : Pr.has p.names x with
  | false =>
    have HFN : Hid (Gooded w p x (.returned (.tuple #[.slice none 0 0, .iface 40 (.int .i64 7)])) w1) := by
      refine (HG.out _ _).2 ⟨hb1, ?_⟩
      rw [hhas, if_neg Bool.false_ne_true]
    clear hb1 HHN
    go_wp2_with fail
    refine bodyPost_ret (results_tmp2 rfl _ _ _) rfl ?_
    exact HFN.out
  | true =>
    obtain ⟨S, hSS⟩ : ∃ S, S = Mc.total (Mc.parts p) := ⟨_, rfl⟩
    obtain ⟨I, hII⟩ : ∃ I, I = 2 ^ (Ld.kindL p.names 1).length := ⟨_, rfl⟩
    obtain ⟨n, hnn⟩ : ∃ n, n = p.names.length := ⟨_, rfl⟩
    have HFN : Hid (∀ g us W, us.length = S → GT w g S I us (Pr.goodRow p x I) W → Gooded w p x (.returned (.tuple #[.slice (some ⟨g, 0, none⟩) S S, .nilIface])) W) := fun g us W h1 h2 => by
      refine (HG.out _ _).2 ⟨h2.bel, ?_⟩
      rw [hhas, if_pos rfl, ← hSS, ← hII]
      exact ⟨g, us, rfl, h1, h2⟩
    have HSTA : Hid (∀ W (s : Nat), Below w.heap.size w W → s < S → Calls Tryz.prog 36 #[.pointer (some ⟨bm, 0, none⟩), .int .i64 (s : Int)] W (NewSt W (Mc.state (Mc.parts p) s))) := fun W s hW hs => HMV.out.state W s hW (by rw [← hSS]; exact hs)
    have HSEE : Hid (∀ W (s i : Nat), Below w.heap.size w W → s < S → i < I → Calls Tryz.prog 37 #[.pointer (some ⟨bm, 0, none⟩), .int .i64 (s : Int), .int .i64 (i : Int)] W fun e w' => ∃ gb, e = .returned (.tuple #[slV gb n, .nilIface]) ∧ RowIs w' gb 4 ((Mc.after1 p (Ld.kindL p.names 1).length s i).is.map boolV) ∧ W.heap.size ≤ gb ∧ Below W.heap.size W w') := fun W s i hW hs hi => by
      rw [hnn]
      exact HMV.out.sees W s i hW (by rw [← hSS]; exact hs) (by rw [← hII]; exact hi)
    rw [← hSS] at hS HNA
    rw [← hII] at hI6 HNA
    have HNN := hide hnn
    have HII := hide hII
    obtain ⟨c4, hul, hrw⟩ := HNA.out.below hb1
    have mk1 := fun w => makeBss S (by omega) w
    have mk2 := fun w => makeBs I (by omega) w
    obtain ⟨cI, hcI⟩ : ∃ c, c = List.replicate I (Value.bool false) := ⟨_, rfl⟩
    obtain ⟨cS, hcS⟩ : ∃ c, c = List.replicate S (Value.slice none 0 0) := ⟨_, rfl⟩
    rw [← hcI] at mk2
    rw [← hcS] at mk1
    have HCI := hide hcI
    obtain ⟨w2, hw2⟩ : ∃ w2, w2 = w1.alloc (.cells ⟨cS⟩ 51) := ⟨_, rfl⟩
    have HT0 : Hid (GT w w1.heap.size S I [] (Pr.goodRow p x I) w2) := by
      refine ⟨by simp, ?_, fun s b hs => by simp at hs, fun s hs => absurd hs (Nat.not_lt_zero _), hb1.size, ?_⟩
      · rw [hw2, hcS]; exact RowIs.new _ _ _
      · rw [hw2]; exact hb1.alloc hb1.size _
    have HXS : Hid (∀ W, Below w.heap.size w W → IsEx (fun _ => True) W x (.iface tu yu)) := fun W hW => IsEx.stay (Stay.below hW) (fun g _ => trivial) x _ HX.out
    have HPR : Hid (∀ W, Below w.heap.size w W → W.cell? ⟨bm, 0, none⟩ = some (.slice na nk nc) ∧ W.cell? ⟨bm, 1, none⟩ = some (.slice ra rk rc) ∧ NamesAt W (.slice na nk nc) p.names) := fun W hW => HMV.out.prog W hW
    have hb1l := HB1.out.size
    have hbl1 : bm < w1.heap.size := by omega
    clear hb1 HHN hSS hII hnn hcI hcS hrw hul HG hhas p0 p1
    go_wp2_with fail
    rw [← hw2]
    clear hw2
    go_loopw [40] (fun i wr => ∃ (s : Nat) (us : List Nat), s ≤ S ∧ i = .int .i64 (s : Int) ∧ us.length = s ∧ Hid (GT w w1.heap.size S I us (Pr.goodRow p x I) wr)) (fun i _ => S - (intOf i).toNat)
    case atStart => exact ⟨0, [], Nat.zero_le _, rfl, rfl, HT0.out⟩
    case round =>
      obtain ⟨s, us, hs, rfl, hus, HT⟩ := hrel
      by_cases hlt : s < S
      · obtain ⟨bN, hbN⟩ : ∃ b, uN[s]? = some b := ⟨_, List.getElem?_eq_getElem (by rw [HNA.out.2.1]; exact hlt)⟩
        have hna := HNA.out.below HT.out.bel
        have r0 := (hna.2.2 s bN hbN).1
        have hg := HT.out.top.lt
        have g0 := HT.out.top.cell s (.slice none 0 0) (by rw [List.getElem?_append_right (by simp; omega), List.getElem?_replicate, if_pos (by simp; omega)])
        have g1 := HT.out.top.frozen s
        have hsi : (s : Int) < (S : Int) := by omega
        obtain ⟨wN, hwN⟩ : ∃ wN, wN = (wr.setCell ⟨w1.heap.size, s, none⟩ (.slice (some ⟨wr.heap.size, 0, none⟩) I I)).alloc (.cells ⟨cI⟩ 4) := ⟨_, rfl⟩
        have HTN : Hid (GT w w1.heap.size S I (us ++ [wr.heap.size]) (fun t => if t = us.length then Rc.inTo (Pr.goodRow p x I s) 0 else Pr.goodRow p x I t) wN) := by
          have h1 := HT.out.new (by omega) (Pr.goodRow p x I s) (Pr.goodRow_len ..) cI HCI.out
          rw [hus] at h1 ⊢
          rw [hwN]
          exact h1
        have HD : Hid (∀ t : Nat, us[t]? ≠ some wr.heap.size) := fun t e => by have := (HT.out.rows t _ e).1.lt; omega
        clear hna hbN c4
        obtain ⟨wo, rfl⟩ : ∃ wo, wo = wr := ⟨_, rfl⟩
        go_upto_region 8 with fail
        rw [← hwN]
        have HK2 : Hid (∀ W, Below wN.heap.size wN W → W.cell? ⟨bm, 0, none⟩ = some (.slice na nk nc) ∧ W.cell? ⟨bm, 1, none⟩ = some (.slice ra rk rc)) := fun W hW => by
          obtain ⟨h1, h2, _⟩ := HPR.out W (HTN.out.bel.trans (hW.mono HTN.out.bel.size))
          exact ⟨h1, h2⟩
        have HBW : Hid (∀ W, Below wN.heap.size wN W → Below w.heap.size w W) := fun W hW => HTN.out.bel.trans (hW.mono HTN.out.bel.size)
        have HDA : Hid (Below wN.heap.size wN wN.drew) := ⟨rfl, rfl, rfl, Nat.le_refl _, fun _ _ => rfl⟩
        have HLS := hide (HMV.out.lens s 0).1
        rw [← HNN.out] at HLS
        have HSC : Hid (∀ W, Below wN.heap.size wN W → Calls Tryz.prog 36 #[.pointer (some ⟨bm, 0, none⟩), .int .i64 (s : Int)] W fun e w' => ∃ gi gc, e = .returned (.agg #[.slice (some ⟨gi, 0, none⟩) n n, .slice (some ⟨gc, 0, none⟩) n n]) ∧ RowIs w' gi 4 ((Mc.state (Mc.parts p) s).is.map boolV) ∧ W.heap.size ≤ gi ∧ Below W.heap.size W w') := fun W hW => by
          refine (HSTA.out W s (HBW.out W hW) hlt).mono ?_
          rintro e w' ⟨gi, gc, rfl, h1, h3, _, h2⟩
          rw [HLS.out]
          exact ⟨gi, gc, rfl, h1.rowI, h3, h2⟩
        have HWN := hide hwN
        clear hwN
        go_cut [9] (fun t wx => ∃ ta tb gi, t = .func (.func 87) #[] #[.pointer (some ⟨ta, 0, none⟩), .pointer (some ⟨tb, 0, none⟩)] ∧ ToldAt wx (.slice na nk nc) ra rk rc n (Mc.state (Mc.parts p) s).is ta tb gi ∧ (wN.heap.size ≤ ta ∧ wN.heap.size ≤ tb ∧ wN.heap.size ≤ gi) ∧ Below wN.heap.size wN wx)
        case first =>
          go_region_held3 (fun W => W.cell? ⟨bm, 0, none⟩ = some (.slice na nk nc) ∧ W.cell? ⟨bm, 1, none⟩ = some (.slice ra rk rc)) ((refine HK2.out _ ?_; repeat (first | exact HB6.out | exact HDA.out | exact Below.refl _ _ | refine Below.alloc ?_ (by first | omega | (simp; omega)) _))) ((first
            | (go_at_call 36; (with_reducible refine (HSC.out _ HDA.out).mono ?_); rintro e w6 ⟨gi, gc, rfl, hrow6, hgi6, hb6⟩; have HB6 : Hid (Below wN.heap.size wN w6) := HDA.out.trans hb6; have hz6 := HB6.out.size; have HR6 := hide hrow6; clear hrow6 hb6)
            | (go_at_call 35; (with_reducible refine (ptold_any _ _ _ _ ⟨_, _, _, rfl⟩ ⟨_, _, _, rfl⟩ ⟨_, _, _, rfl⟩).mono ?_); rintro e w7 ⟨rfl, rfl⟩)))
          all_goals go_wp2_with fail
          all_goals go_meet
          exact ⟨_, _, gi, rfl, told_made _ _ _ _ _ _ _ _ HR6.out, ⟨hz6, by omega, hgi6⟩, (HB6.out.alloc hz6 _).alloc (by simp; omega) _⟩
        case rest =>
          obtain ⟨ta, tb, gi, rfl, htl, ⟨lta, ltb, lgi⟩, hbc⟩ := hcut
          have HTL := hide htl
          have HTC := hide (HTN.out.below hbc)
          have hzN : wN.heap.size = wo.heap.size + 1 := by rw [HWN.out]; simp [World.setCell]
          have hzc := hbc.size
          clear htl hbc HSC HK2 HDA HTN HBW
          go_wp2_with fail
          go_loopw [62] (fun x_ wr => ∃ i : Nat, i ≤ I ∧ x_ = .int .i64 (i : Int) ∧ Hid (GT w w1.heap.size S I (us ++ [wo.heap.size]) (fun t => if t = us.length then Rc.inTo (Pr.goodRow p x I s) i else Pr.goodRow p x I t) wr) ∧ Hid (ToldAt wr (.slice na nk nc) ra rk rc n (Mc.state (Mc.parts p) s).is ta tb gi)) (fun x_ _ => I - (intOf x_).toNat)
          case atStart => exact ⟨0, Nat.zero_le _, rfl, HTC.out, HTL.out⟩
          case round =>
            clear HTC HTL
            obtain ⟨i, hi, rfl, HTC, HTL⟩ := hrel
            by_cases hiI : i < I
            · have hii : (i : Int) < (I : Int) := by omega
              have HSE := hide (HSEE.out wr s i HTC.out.bel hlt hiI)
              unfold slV at HSE
              go_wp2_with fail
              refine HSE.out.mono ?_
              rintro e wE ⟨gb, rfl, hrE, hgE, hbE⟩
              have HRE := hide hrE
              have HBE := hide hbE
              have HTE := hide (HTC.out.below hbE)
              obtain ⟨l1, l2, l3⟩ := HTL.out.lt
              have HLE := hide (HTL.out.kept (hbE.block _ l1) (hbE.block _ l2) (hbE.block _ l3))
              clear hrE hbE HSE
              have hgE2 := HTE.out.top.lt
              have HKE : Hid (KG bm (.slice na nk nc) (.slice ra rk rc) w1.heap.size s wo.heap.size I wE) := by
                obtain ⟨k1, k2, _⟩ := HPR.out wE HTE.out.bel
                refine ⟨k1, k2, HTE.out.top.cell s _ ?_⟩
                rw [List.getElem?_append_left (by simp; omega), List.getElem?_map, List.getElem?_append_right (by omega), hus]
                simp [slV]
              obtain ⟨hrb, hgb⟩ := HTE.out.rows us.length wo.heap.size (by rw [List.getElem?_append_right (Nat.le_refl _)]; simp)
              rw [if_pos rfl] at hrb
              have HRB := hide hrb
              have hlo := hrb.lt
              have HDA : Hid (Below wE.heap.size wE wE.drew) := ⟨rfl, rfl, rfl, Nat.le_refl _, fun _ _ => rfl⟩
              have HLI := hide ((HMV.out.lens s i).2 (by rw [← HII.out]; exact hiI))
              rw [← HNN.out] at HLI
              have HEV : Hid (∀ (W : World) (a b : Nat), Below wE.heap.size wE W → ToldAt W (.slice na nk nc) ra rk rc n (Mc.after1 p (Ld.kindL p.names 1).length s i).is a b gb → Calls Tryz.prog 38 #[.iface tu yu, .func (.func 87) #[] #[.pointer (some ⟨a, 0, none⟩), .pointer (some ⟨b, 0, none⟩)], .func (.func 87) #[] #[.pointer (some ⟨ta, 0, none⟩), .pointer (some ⟨tb, 0, none⟩)]] W fun e w' => e = .returned (.bool (Pr.good p x s i)) ∧ Below wE.heap.size wE w') := fun W a b h7 ht => by
                have h8 := HTE.out.bel.trans (h7.mono HTE.out.bel.size)
                obtain ⟨q1, q2, q3⟩ := HLE.out.lt
                refine (E2.Eval_any (fun _ => True) x _ _ _ _ _ _ (HXS.out _ h8) (ht.tells (HPR.out _ h8).2.2 HLI.out HNN.out) ((HLE.out.kept (h7.block _ q1) (h7.block _ q2) (h7.block _ q3)).tells (HPR.out _ h8).2.2 HLS.out HNN.out)).mono ?_
                rintro e w' ⟨rfl, h9⟩
                exact ⟨rfl, h7.trans (h9.mono h7.size)⟩
              have HT7 : Hid (ToldAt ((wE.alloc (.cells #[.slice na nk nc, .slice ra rk rc] 83)).alloc (.cells #[.slice (some ⟨gb, 0, none⟩) n n] 51)).drew (.slice na nk nc) ra rk rc n (Mc.after1 p (Ld.kindL p.names 1).length s i).is wE.heap.size (wE.heap.size + 1) gb) := by
                obtain ⟨u1, u2, u3⟩ := told_made (.slice na nk nc) ra rk rc wE _ gb n HRE.out
                exact ⟨u1, u2, u3⟩
              have HB7 : Hid (Below wE.heap.size wE ((wE.alloc (.cells #[.slice na nk nc, .slice ra rk rc] 83)).alloc (.cells #[.slice (some ⟨gb, 0, none⟩) n n] 51)).drew) := by
                have h7 : Below wE.heap.size wE ((wE.alloc (.cells #[.slice na nk nc, .slice ra rk rc] 83)).alloc (.cells #[.slice (some ⟨gb, 0, none⟩) n n] 51)) := ((Below.refl _ wE).alloc (Nat.le_refl _) _).alloc (by simp) _
                exact h7.trans ⟨rfl, rfl, rfl, Nat.le_refl _, fun _ _ => rfl⟩
              have hnb : bm ≠ wo.heap.size := by omega
              have hng : w1.heap.size ≠ wo.heap.size := by omega
              have hlE : wo.heap.size < wE.heap.size := hlo
              clear hrb
              go_upto_region 13 with fail
              go_region_held3 (fun W => W.cell? ⟨bm, 0, none⟩ = some (.slice na nk nc) ∧ W.cell? ⟨bm, 1, none⟩ = some (.slice ra rk rc) ∧ W.cell? ⟨w1.heap.size, s, none⟩ = some (.slice (some ⟨wo.heap.size, 0, none⟩) I I)) ((show KG bm (.slice na nk nc) (.slice ra rk rc) w1.heap.size s wo.heap.size I _; repeat (first | exact HKE.out | exact HKE.out.below HDA.out | exact HKE.out.below HB8.out | refine KG.set _ _ _ hnb hng ?_ | refine KG.drew ?_ | (refine KG.below ?_ (Below.alloc (Below.refl _ _) (Nat.le_refl _) _))))) ((first
                | (go_at_call 35; (with_reducible refine (ptold_any _ _ _ _ ⟨_, _, _, rfl⟩ ⟨_, _, _, rfl⟩ ⟨_, _, _, rfl⟩).mono ?_); rintro e w7 ⟨rfl, rfl⟩)
                | (go_at_call 38; (with_reducible refine (HEV.out _ _ _ HB7.out HT7.out).mono ?_); rintro e w8 ⟨rfl, hb8⟩; have HB8 := hide hb8; have q3 := (hb8.cell (p := ⟨wo.heap.size, i, none⟩) hlE).trans (HRB.out.cell i false (Rc.inTo_at _ _ (by rw [Pr.goodRow_len]; exact hiI))); have q4 := (hb8.frozen (p := ⟨wo.heap.size, i, none⟩) hlE).trans (RowIs.frozen HRB.out i); clear hb8)))
              have HNX : Hid (GT w w1.heap.size S I (us ++ [wo.heap.size]) (fun t => if t = us.length then Rc.inTo (Pr.goodRow p x I s) (i + 1) else Pr.goodRow p x I t) (w8.setCell ⟨wo.heap.size, i, none⟩ (.bool (Pr.good p x s i)))) := (HTE.out.below HB8.out).set HD.out (Pr.goodRow_len ..) hiI (Pr.goodRow_at _ _ _ _ _ hiI)
              have HTX : Hid (ToldAt (w8.setCell ⟨wo.heap.size, i, none⟩ (.bool (Pr.good p x s i))) (.slice na nk nc) ra rk rc n (Mc.state (Mc.parts p) s).is ta tb gi) := by
                obtain ⟨q1, q2, q3⟩ := HLE.out.lt
                refine HLE.out.kept ?_ ?_ ?_
                · rw [Below.heap_setCell _ _ _ _ (by show ta ≠ wo.heap.size; omega)]; exact HB8.out.block _ q1
                · rw [Below.heap_setCell _ _ _ _ (by show tb ≠ wo.heap.size; omega)]; exact HB8.out.block _ q2
                · rw [Below.heap_setCell _ _ _ _ (by show gi ≠ wo.heap.size; omega)]; exact HB8.out.block _ q3
              clear q3 q4
              go_wp2_with fail
              go_roundw
              case rel => exact ⟨i + 1, by omega, by go_num, HNX.out, HTX.out⟩
              case measure => simp [intOf]; omega
            · have hiI' : i = I := by omega
              have HGE : Hid (GT w w1.heap.size S I (us ++ [wo.heap.size]) (Pr.goodRow p x I) wr) := by
                have h1 := HTC.out
                have e : (fun t => if t = us.length then Rc.inTo (Pr.goodRow p x I s) i else Pr.goodRow p x I t) = Pr.goodRow p x I := by
                  funext t
                  by_cases ht : t = us.length
                  · rw [if_pos ht, ht, hus]
                    have h2 := Rc.inTo_all (Pr.goodRow p x I s)
                    rw [Pr.goodRow_len] at h2
                    rw [hiI']; exact h2
                  · rw [if_neg ht]
                rw [e] at h1
                exact h1
              go_wp2_with fail
              exact ⟨⟨s + 1, us ++ [wo.heap.size], by omega, by go_num, by simp [hus], HGE.out⟩, by simp [intOf]; omega⟩
      · have hsS : s = S := by omega
        have HE := hide (HFN.out _ us wr (by omega) HT.out)
        go_wp2_with fail
        refine bodyPost_ret (results_tmp2 rfl _ _ _) rfl ?_
        exact HE.out
end
end Go.Proofs.YtgldbliohpfljaaGreatDoor
