/-
  The document's Check, in plain words: of all ways whose last scan is bad the least, held against what package prop's search finds. The document's table of what comes of which, in plain words: it is package machine's. The walk of the document's Check. The walk of the document's Induct.
-/
import Derived.Test.YtgldbliohpfljaaGreatDoorRfPathXAll
import Derived.Test.YtgldbliohpfljaaGreatDoorPrSearchAll
import Derived.Test.YtgldbliohpfljaaGreatDoorRcLeastAll
import Derived.Test.YtgldbliohpfljaaGreatDoorRcNextAll
import Derived.Test.YtgldbliohpfljaaGreatDoorPcGoodAll
namespace Go.Proofs.YtgldbliohpfljaaGreatDoor
section
namespace Pc
open Rc
/-- shorter, or of like length and ahead -/
def lt (a b : List Nat) : Prop := a.length < b.length ∨ (a.length = b.length ∧ bef a b = true)
theorem slr_lt : ∀ (a b : List Nat), Pr.SLr a b ↔ lt a.reverse b.reverse
  | [], [] => by simp [Pr.SLr, lt, bef]
  | [], y :: b => by simp [Pr.SLr, lt]
  | x :: a, [] => by simp [Pr.SLr, lt]
  | x :: a, y :: b => by
    have ih := slr_lt a b
    simp only [Pr.SLr, ih, List.reverse_cons]
    unfold lt
    simp only [List.length_append, List.length_reverse, List.length_singleton]
    constructor
    · rintro ((h | ⟨h, h2⟩) | ⟨rfl, h⟩)
      · left; omega
      · right; refine ⟨by omega, ?_⟩; rw [bef_snoc _ _ _ _ (by simpa using h), h2]; rfl
      · right; refine ⟨rfl, ?_⟩; rw [bef_snoc _ _ _ _ rfl]; simp [h]
    · rintro (h | ⟨h, h2⟩)
      · left; left; omega
      · rw [bef_snoc _ _ _ _ (by simp; omega), Bool.or_eq_true] at h2
        rcases h2 with h2 | h2
        · left; right; exact ⟨by omega, h2⟩
        · simp at h2; right; exact h2
theorem lt_slr (a b : List Nat) : lt a b ↔ Pr.SLr a.reverse b.reverse := by rw [slr_lt]; simp
theorem lt_trans {a b c : List Nat} (h : lt a b) (k : lt b c) : lt a c := (lt_slr _ _).2 (Pr.slr_trans _ _ _ ((lt_slr _ _).1 h) ((lt_slr _ _).1 k))
theorem lt_irr (a : List Nat) : ¬ lt a a := fun h => Pr.slr_irrefl _ ((lt_slr _ _).1 h)
theorem lt_tri (a b : List Nat) : a = b ∨ lt a b ∨ lt b a := by
  rcases Pr.slr_total a.reverse b.reverse with h | h | h
  · exact .inl (List.reverse_inj.1 h)
  · exact .inr (.inl ((lt_slr _ _).2 h))
  · exact .inr (.inr ((lt_slr _ _).2 h))
def le (a b : List Nat) : Prop := a = b ∨ lt a b
theorem le_len {a b : List Nat} (h : le a b) : a.length ≤ b.length := by
  rcases h with rfl | h | ⟨h, _⟩ <;> omega
theorem le_trans {a b c : List Nat} (h : le a b) (k : le b c) : le a c := by
  rcases h with rfl | h
  · exact k
  · rcases k with rfl | k
    · exact .inr h
    · exact .inr (lt_trans h k)
theorem lt_of_le {a b c : List Nat} (h : lt a b) (k : le b c) : lt a c := by
  rcases k with rfl | k
  · exact h
  · exact lt_trans h k
theorem le_snoc {a b : List Nat} (h : le a b) (i : Nat) : le (a ++ [i]) (b ++ [i]) := by
  rcases h with rfl | h
  · exact .inl rfl
  · refine .inr ((lt_slr _ _).2 ?_)
    rw [List.reverse_append, List.reverse_append]
    exact .inl ((lt_slr _ _).1 h)
theorem le_bef {a b : List Nat} (hl : a.length = b.length) (h : a = b ∨ bef a b = true) : le a b := h.imp id fun h => .inr ⟨hl, h⟩
theorem inr_append (next : Nat → List Nat) : ∀ (l m : List Nat) (s : Nat), Pr.InR next s (l ++ m) ↔ Pr.InR next s l ∧ Pr.InR next (go next s l) m
  | [], m, s => by simp [Pr.InR, go]
  | i :: l, m, s => by
    simp only [List.cons_append, Pr.InR, go, inr_append next l m, and_assoc]
theorem go_fst (next : Nat → List Nat) (wt : Nat × Nat → Nat → Nat) : ∀ (l : List Nat) (p : Nat × Nat), (Pr.go next wt p l).1 = go next p.1 l
  | [], _ => rfl
  | i :: l, p => by
    show (Pr.go next wt (Pr.step next wt p i) l).1 = _
    rw [go_fst next wt l]
    rfl
/-- of all ways to a state the one told is the least -/
theorem way_least (next : Nat → List Nat) (S : Nat) (hS : 1 ≤ S) (hn : ∀ f s, f < S → s ∈ next f → s < S) : ∀ (r : List Nat), Pr.InR next 0 r.reverse → ∃ n : Nat, go next 0 r.reverse < S ∧ ((walk next S).at_ (go next 0 r.reverse)).far = (n : Int) ∧ le (pathOf (walk next S) n (go next 0 r.reverse)) r.reverse
  | [], _ => ⟨0, hS, (walk_far next S hS hn).zero, .inl rfl⟩
  | i :: r, h => by
    rw [List.reverse_cons] at h ⊢
    rw [inr_append] at h
    obtain ⟨n, h1, h2, h3⟩ := way_least next S hS hn r h.1
    have hi : i < (next (go next 0 r.reverse)).length := h.2.1
    rw [go_snoc]
    generalize go next 0 r.reverse = t at *
    have e : (next t).getD i 0 = (next t)[i] := by simp [hi]
    have hm : (next t)[i] ∈ next t := List.getElem_mem hi
    have hu := hn t _ h1 hm
    have hnr := (walk_far next S hS hn).near t _ h1 (by omega) hm
    have hg : (next t)[i]? = some (next t)[i] := List.getElem?_eq_getElem hi
    rw [e]
    generalize (next t)[i] = u at *
    obtain ⟨m, hm⟩ : ∃ m : Nat, ((walk next S).at_ u).far = (m : Int) := ⟨((walk next S).at_ u).far.toNat, by omega⟩
    refine ⟨m, hu, hm, ?_⟩
    have hl := le_len h3
    rw [pathOf_len] at hl
    by_cases hmn : m = n + 1
    · subst hmn
      have := path_least next S hS hn n t i u h1 hu h2 (by rw [hm]; simp) hg
      exact le_trans (le_bef (by simp [pathOf_len]) this) (le_snoc h3 i)
    · refine .inr (.inl ?_)
      rw [pathOf_len, List.length_append]
      simp only [List.length_singleton]
      omega
theorem path_in {next : Nat → List Nat} {S : Nat} {q : Qu} (h : Far next S q) : ∀ (n s : Nat), s < S → (q.at_ s).far = n → Pr.InR next 0 (pathOf q n s)
  | 0, _, _, _ => trivial
  | n + 1, s, hs, hf => by
    obtain ⟨p1, p2, p3⟩ := h.par s hs (by omega)
    have ih := path_in h n (q.at_ s).frm p1 (by omega)
    have hg := (path_goes h n (q.at_ s).frm p1 (by omega)).1
    show Pr.InR next 0 (pathOf q n (q.at_ s).frm ++ [(q.at_ s).by_])
    rw [inr_append, hg]
    exact ⟨ih, (List.getElem?_eq_some_iff.1 p3).1, trivial⟩
/-- a way that is not good throughout has a first bad scan -/
theorem not_fine {next : Nat → List Nat} {wt : Nat × Nat → Nat → Nat} {row : Nat → List Bool} (hwt : ∀ p i, wt p i = if (row p.1).getD i false = true then 0 else 1) : ∀ (l : List Nat) (p : Nat × Nat), Pr.InR next p.1 l → ¬ Pr.Fine next wt 0 p l → ∃ m j r, l = m ++ j :: r ∧ Pr.InR next p.1 m ∧ j < (next (go next p.1 m)).length ∧ (row (go next p.1 m)).getD j false = false
  | [], _, _, h => absurd trivial h
  | i :: l, p, hr, h => by
    by_cases hg : (row p.1).getD i false = true
    · have hw : wt p i ≤ 0 := by rw [hwt, if_pos hg]; exact Nat.le_refl _
      have hnf : ¬ Pr.Fine next wt 0 (Pr.step next wt p i) l := fun k => h ⟨hr.1, hw, k⟩
      obtain ⟨m, j, r, h1, h2, h3, h4⟩ := not_fine hwt l (Pr.step next wt p i) hr.2 hnf
      exact ⟨i :: m, j, r, by rw [h1]; rfl, ⟨hr.1, h2⟩, h3, h4⟩
    · exact ⟨[], i, l, rfl, trivial, hr.1, Bool.eq_false_iff.2 hg⟩
/-- a way whose last scan is bad, and whose others lead to a state by its least way -/
def Bad (next : Nat → List Nat) (S : Nat) (row : Nat → List Bool) (s i : Nat) (q : List Nat) : Prop := ∃ n : Nat, s < S ∧ ((walk next S).at_ s).far = (n : Int) ∧ i < (next s).length ∧ (row s).getD i false = false ∧ q = pathOf (walk next S) n s ++ [i]
/-- the best so far: of the states ahead of s, and of state s the first k inputs -/
def Best (next : Nat → List Nat) (S : Nat) (row : Nat → List Bool) (b : Option (List Nat)) (s k : Nat) : Prop := match b with
  | none => ∀ s' i' c, (s' < s ∨ (s' = s ∧ i' < k)) → ¬ Bad next S row s' i' c
  | some q => (∃ s' i', Bad next S row s' i' q) ∧ ∀ s' i' c, (s' < s ∨ (s' = s ∧ i' < k)) → Bad next S row s' i' c → le q c
theorem Best.start (next : Nat → List Nat) (S : Nat) (row : Nat → List Bool) : Best next S row none 0 0 := fun s' i' c h => by omega
theorem Best.same {next : Nat → List Nat} {S : Nat} {row : Nat → List Bool} {b : Option (List Nat)} {s k s2 k2 : Nat} (h : Best next S row b s k) (hx : ∀ s' i' c, (s' < s2 ∨ (s' = s2 ∧ i' < k2)) → Bad next S row s' i' c → (s' < s ∨ (s' = s ∧ i' < k))) : Best next S row b s2 k2 := by
  cases b with
  | none => exact fun s' i' c h1 h2 => h s' i' c (hx s' i' c h1 h2) h2
  | some q => exact ⟨h.1, fun s' i' c h1 h2 => h.2 s' i' c (hx s' i' c h1 h2) h2⟩
theorem Best.far {next : Nat → List Nat} {S : Nat} {row : Nat → List Bool} {b : Option (List Nat)} {s : Nat} (h : Best next S row b s 0) (hf : ((walk next S).at_ s).far < 0) : Best next S row b (s + 1) 0 := h.same fun s' i' c h1 h2 => by
  obtain ⟨n, _, h3, _⟩ := h2
  by_cases e : s' = s
  · subst e; omega
  · omega
theorem Best.next {next : Nat → List Nat} {S : Nat} {row : Nat → List Bool} {b : Option (List Nat)} {s k : Nat} (h : Best next S row b s k) (hk : (next s).length ≤ k) : Best next S row b (s + 1) 0 := h.same fun s' i' c h1 h2 => by
  obtain ⟨n, _, _, h3, _⟩ := h2
  by_cases e : s' = s
  · subst e; omega
  · omega
theorem Best.good {next : Nat → List Nat} {S : Nat} {row : Nat → List Bool} {b : Option (List Nat)} {s i : Nat} (h : Best next S row b s i) (hg : (row s).getD i false = true) : Best next S row b s (i + 1) := h.same fun s' i' c h1 h2 => by
  obtain ⟨n, _, _, _, h3, _⟩ := h2
  by_cases e : s' = s ∧ i' = i
  · obtain ⟨rfl, rfl⟩ := e
    rw [hg] at h3; cases h3
  · omega
theorem Best.take {next : Nat → List Nat} {S : Nat} {row : Nat → List Bool} {b : Option (List Nat)} {s i : Nat} {q : List Nat} (h : Best next S row b s i) (hq : Bad next S row s i q) (hb : ∀ x, b = some x → lt q x) : Best next S row (some q) s (i + 1) := by
  refine ⟨⟨s, i, hq⟩, fun s' i' c h1 h2 => ?_⟩
  by_cases e : s' = s ∧ i' = i
  · obtain ⟨rfl, rfl⟩ := e
    obtain ⟨n, _, h3, _, _, rfl⟩ := h2
    obtain ⟨n', _, h4, _, _, rfl⟩ := hq
    have : n = n' := by omega
    subst this
    exact .inl rfl
  · cases b with
    | none => exact absurd h2 (h s' i' c (by omega))
    | some x => exact .inr (lt_of_le (hb x rfl) (h.2 s' i' c (by omega) h2))
theorem Best.keep {next : Nat → List Nat} {S : Nat} {row : Nat → List Bool} {s i : Nat} {q x : List Nat} (h : Best next S row (some x) s i) (hq : Bad next S row s i q) (hb : ¬ lt q x) : Best next S row (some x) s (i + 1) := by
  refine ⟨h.1, fun s' i' c h1 h2 => ?_⟩
  by_cases e : s' = s ∧ i' = i
  · obtain ⟨rfl, rfl⟩ := e
    obtain ⟨n, _, h3, _, _, rfl⟩ := h2
    obtain ⟨n', _, h4, _, _, rfl⟩ := hq
    have : n = n' := by omega
    subst this
    rcases lt_tri (pathOf (walk next S) n s' ++ [i']) x with h5 | h5 | h5
    · exact .inl h5.symm
    · exact absurd h5 hb
    · exact .inr h5
  · exact h.2 s' i' c (by omega) h2
theorem bad_of {next : Nat → List Nat} {S : Nat} {row : Nat → List Bool} (hS : 1 ≤ S) (hn : ∀ f s, f < S → s ∈ next f → s < S) {m : List Nat} {j : Nat} (hm : Pr.InR next 0 m) (hj : j < (next (go next 0 m)).length) (hb : (row (go next 0 m)).getD j false = false) : ∃ c, Bad next S row (go next 0 m) j c ∧ go next 0 m < S ∧ le c (m ++ [j]) := by
  obtain ⟨n, h1, h2, h3⟩ := way_least next S hS hn m.reverse (by rw [List.reverse_reverse]; exact hm)
  rw [List.reverse_reverse] at h1 h2 h3
  exact ⟨_, ⟨n, h1, h2, hj, hb, rfl⟩, h1, le_snoc h3 j⟩
theorem Best.none_ {next : Nat → List Nat} {S : Nat} {row : Nat → List Bool} {wt : Nat × Nat → Nat → Nat} (hS : 1 ≤ S) (hn : ∀ f s, f < S → s ∈ next f → s < S) (hwt : ∀ p i, wt p i = if (row p.1).getD i false = true then 0 else 1) (h : Best next S row none S 0) : Pr.Held next wt 0 := fun l hl => by
  refine Classical.byContradiction fun hf => ?_
  obtain ⟨m, j, r, rfl, h2, h3, h4⟩ := not_fine hwt l (0, 0) hl hf
  obtain ⟨c, h5, h6, _⟩ := bad_of hS hn h2 h3 h4
  exact h _ _ c (.inl h6) h5
theorem Best.some_ {next : Nat → List Nat} {S : Nat} {row : Nat → List Bool} {wt : Nat × Nat → Nat → Nat} {q : List Nat} (hS : 1 ≤ S) (hn : ∀ f s, f < S → s ∈ next f → s < S) (hwt : ∀ p i, wt p i = if (row p.1).getD i false = true then 0 else 1) (h : Best next S row (some q) S 0) : Pr.Broke next wt 0 q ∧ Pr.Least next wt 0 q := by
  obtain ⟨⟨s, i, n, h1, h2, h3, h4, hq⟩, hmin⟩ := h
  have hw := walk_far next S hS hn
  have hin := path_in hw n s h1 h2
  have hgo := (path_goes hw n s h1 h2).1
  refine ⟨⟨_, i, hq, ?_, by rw [go_fst, hgo]; exact h3, ?_⟩, ?_⟩
  · refine Classical.byContradiction fun hf => ?_
    obtain ⟨m, j, r, e, g2, g3, g4⟩ := not_fine hwt _ (0, 0) hin hf
    obtain ⟨c, g5, g6, g7⟩ := bad_of hS hn g2 g3 g4
    have g8 := le_len (hmin _ _ c (.inl g6) g5)
    have g9 := le_len g7
    rw [hq, e] at g8
    simp only [List.length_append, List.length_cons, List.length_nil] at g8 g9
    omega
  · rw [hwt, go_fst, hgo, h4, if_neg Bool.false_ne_true]
    exact Nat.one_pos
  · rintro l' ⟨m, j, rfl, g1, g2, g3⟩ hs
    rw [← lt_slr] at hs
    rw [go_fst] at g2
    have g4 : (row (go next 0 m)).getD j false = false := by
      rw [hwt, go_fst] at g3
      by_cases e : (row (go next 0 m)).getD j false = true
      · rw [if_pos e] at g3; exact absurd g3 (Nat.lt_irrefl _)
      · exact Bool.eq_false_iff.2 e
    obtain ⟨c, g5, g6, g7⟩ := bad_of hS hn (Pr.Fine.inr m (0, 0) g1) g2 g4
    exact lt_irr _ (lt_of_le hs (le_trans (hmin _ _ c (.inl g6) g5) g7))
end Pc
end
section
namespace Rf
open Go.RowKit
theorem nextL_is (p : Ld.Prg) (hck : Ld.check p = none) (s : Nat) : nextL p (2 ^ (Ld.kindL p.names 1).length) s = Mc.nexts p s := by
  unfold nextL Mc.nexts
  exact List.map_congr_left fun i _ => nxt_is p hck s i
theorem nextsL_small (p : Ld.Prg) (hck : Ld.check p = none) (S I : Nat) (hS : Mc.total (Mc.parts p) ≤ 4096) : ∀ b, b ∈ nextsL p S I → ∀ i, i ∈ b → i ≤ 1000000 := fun b hb i hi => by
  obtain ⟨s, _, rfl⟩ := List.mem_map.1 hb
  obtain ⟨j, _, rfl⟩ := List.mem_map.1 hi
  have h := (nxt_small p hck s j hS).1 0 (Nat.zero_le _)
  rw [numAt_zero] at h
  exact h
theorem nextsL_map (p : Ld.Prg) (hck : Ld.check p = none) (S : Nat) : (nextsL p S (2 ^ (Ld.kindL p.names 1).length)).map asI = (List.range S).map fun s => asI (Mc.nexts p s) := by
  unfold nextsL
  rw [List.map_map]
  exact List.map_congr_left fun s _ => by show asI _ = asI _; rw [nextL_is p hck]
end Rf
end
section
namespace Rf
open Go.RowKit
/-- a list of inputs that was found, in memory; nil: none -/
def BestV (W : World) (b : Option (List Nat)) (v : Value) : Prop := match b with
  | none => v = .slice none 0 0
  | some q => q.length ≤ 5000 ∧ ∃ a c, v = .slice (some ⟨a, 0, none⟩) q.length c ∧ q.length ≤ c ∧ ∀ (k x : Nat), q[k]? = some x → x ≤ 64 ∧ W.cell? ⟨a, k, none⟩ = some (.int .i64 (x : Int))
theorem BestV.below {W W' : World} {b : Option (List Nat)} {v : Value} (h : BestV W b v) (hb : Below W.heap.size W W') : BestV W' b v := by
  cases b with
  | none => exact h
  | some q =>
    obtain ⟨h0, a, c, h1, h2, h3⟩ := h
    exact ⟨h0, a, c, h1, h2, fun k x hx => ⟨(h3 k x hx).1, (hb.cell (World.block_lt_of_cell? _ _ (h3 k x hx).2)).trans (h3 k x hx).2⟩⟩
theorem wtC_is (row : Nat → List Bool) (p : Nat × Nat) (i : Nat) : Pr.wtC row p i = if (row p.1).getD i false = true then 0 else 1 := by
  unfold Pr.wtC Pr.waits
  cases (row p.1).getD i false <;> rfl
/-- what the document's Check comes to -/
def CheckD (w : World) (next : Nat → List Nat) (row : Nat → List Bool) (e : Ending) (w' : World) : Prop := Below w.heap.size w w' ∧ ∃ b v, e = .returned v ∧ BestV w' b v ∧ match b with
  | none => Pr.Held next (Pr.wtC row) 0
  | some q => Pr.Broke next (Pr.wtC row) 0 q ∧ Pr.Least next (Pr.wtC row) 0 q
theorem CheckD.of {w w' : World} {next : Nat → List Nat} {row : Nat → List Bool} {S : Nat} {b : Option (List Nat)} {v : Value} (hS : 1 ≤ S) (hn : ∀ f s, f < S → s ∈ next f → s < S) (hb : Below w.heap.size w w') (hv : BestV w' b v) (h : Pc.Best next S row b S 0) : CheckD w next row (.returned v) w' := by
  refine ⟨hb, b, v, rfl, hv, ?_⟩
  cases b with
  | none => exact h.none_ hS hn (wtC_is row)
  | some q => exact h.some_ hS hn (wtC_is row)
set_option maxHeartbeats 16000000 in
set_option maxRecDepth 100000 in
theorem RCheck_any (bx g : Nat) (p : Ld.Prg) (x : Ex) (w : World) (hm : IsRMach w bx p) (hL : RLaid w) (hck : Ld.check p = none) (hq6 : (Ld.kindL p.names 1).length ≤ 6) (hS4 : Mc.total (Mc.parts p) ≤ 4096) (hx : IsRx (fun _ => True) w x g) (hnm : ∀ n, n ∈ x.named true → n.length ≤ maxLen) :
    Calls Tryz.prog 16 #[.pointer (some ⟨bx, 0, none⟩), .pointer (some ⟨g, 0, none⟩)] w (CheckD w (Mc.nexts p) (Pr.goodRow p x (2 ^ (Ld.kindL p.names 1).length))) := by
  have HGO := hide (RGood_any bx g p x w hm hL hck hq6 hS4 hx hnm)
  obtain ⟨nv, rv, nx, us0, q0, k1, _, k3⟩ := id hm
  have hrow := k3.rowsI (nextsL_small p hck _ _ hS4)
  rw [nextsL_map p hck] at hrow
  have hnl := fun s => Mc.nexts_len p s
  have hnx : ∀ f s, f < Mc.total (Mc.parts p) → s ∈ Mc.nexts p f → s < Mc.total (Mc.parts p) := fun f s _ hs => Mc.nexts_lt p hck f s hs
  have hS1 : 1 ≤ Mc.total (Mc.parts p) := Mc.total_pos _ (Mc.parts_ok p)
  have hI64 : 2 ^ (Ld.kindL p.names 1).length ≤ 64 := Nat.le_trans (Nat.pow_le_pow_right (by decide) hq6) (by decide)
  have hI1 : 0 < 2 ^ (Ld.kindL p.names 1).length := Nat.pow_pos (by decide)
  generalize Pr.goodRow p x (2 ^ (Ld.kindL p.names 1).length) = row at *
  generalize Mc.nexts p = next at *
  generalize Mc.total (Mc.parts p) = S at *
  generalize 2 ^ (Ld.kindL p.names 1).length = I at *
  have HPA : Hid (∀ W, Below w.heap.size w W → Calls Tryz.prog 51 #[.pointer (some ⟨bx, 0, none⟩)] W (PathsD W S next)) := fun W hW => RPaths_any bx S I _ _ _ next W (k1.below hW) (hrow.below hW) hnl hnx hS1 (by omega) (by omega)
  have HNL := hide hnl
  have HNX := hide hnx
  have HWF := hide (Rc.walk_far next S hS1 hnx)
  have en0 := eqNilN_none
  have en1 := eqNilN_some
  clear hm hL hck hq6 hx hnm k1 k3 hrow hnl hnx
  go_enter Tryz.func16, Tryz.ntmps16
  go_wp2_with fail
  refine HGO.out.mono ?_
  rintro e w1 ⟨o, rfl, hga, hb1⟩
  obtain ⟨bo, oc, rfl, hoc, hrows⟩ := hga
  have HROW := hide hrows
  have HB1 := hide hb1
  have HPA1 := hide (HPA.out w1 hb1)
  clear hrows hb1 HGO HPA
  go_wp2_with fail
  refine HPA1.out.mono ?_
  rintro e w2 ⟨gq, uq, out, rfl, hoa, hpi, hb2⟩
  have HB2 : Hid (Below w.heap.size w w2) := then_ HB1.out hb2
  have HOA : Hid (∀ W, Below w2.heap.size w2 W → OutAt W gq uq out) := fun W hW => hoa.below hW
  have HPI := hide hpi
  have HRW : Hid (∀ W, Below w2.heap.size w2 W → ∀ s, s < S → ∃ a d, W.cell? ⟨bo, s, none⟩ = some (.slice (some ⟨a, 0, none⟩) I d) ∧ I ≤ d ∧ ∀ i, i < I → W.cell? ⟨a, i, none⟩ = some (.bool ((row s).getD i false))) := fun W hW s hs => by
    have hb := then_ hb2 hW
    obtain ⟨a, d, h1, h2, h3⟩ := HROW.out s hs
    exact ⟨a, d, (hb.cell (World.block_lt_of_cell? _ _ h1)).trans h1, h2, fun i hi => (hb.cell (World.block_lt_of_cell? _ _ (h3 i hi))).trans (h3 i hi)⟩
  clear hoa hpi hb2 HPA1
  go_wp2_with fail
  go_loopw [20, 7] (fun i bv wr => ∃ (s : Nat) (b : Option (List Nat)) (xa : Option Addr) (xn xc : Nat), s ≤ S ∧ i = .int .i64 (s : Int) ∧ bv = .slice xa xn xc ∧ Hid (BestV wr b (.slice xa xn xc)) ∧ Hid (Pc.Best next S row b s 0) ∧ Hid (Below w2.heap.size w2 wr)) (fun i _ _ => S - (intOf i).toNat)
  case atStart => exact ⟨0, none, none, 0, 0, Nat.zero_le _, rfl, rfl, rfl, Pc.Best.start next S row, Below.refl _ _⟩
  case round =>
    obtain ⟨s, b, xa, xn, xc, hs, rfl, rfl, HBV, HBE, HB⟩ := hrel
    obtain ⟨wo, hwo⟩ : ∃ wo, wo = wr := ⟨_, rfl⟩
    subst hwo
    by_cases hlt : s < S
    · have hsi : (s : Int) < (S : Int) := by omega
      by_cases hneg : ((Rc.walk next S).at_ s).far < 0
      · have hus := (HOA.out wo HB.out).no s (by rw [HPI.out.len]; exact hlt) (HPI.out.none_ s hlt (.inl hneg))
        have cO := (HOA.out wo HB.out).row.cell s _ hus
        have HBE2 := hide (HBE.out.far hneg)
        clear hus hneg
        go_wp2_with fail
        go_roundw
        case rel => exact ⟨s + 1, b, _, _, _, by omega, by go_num, rfl, HBV.out, HBE2.out, HB.out⟩
        case measure => simp [intOf]; omega
      · obtain ⟨n, hfn⟩ : ∃ n : Nat, ((Rc.walk next S).at_ s).far = (n : Int) := ⟨((Rc.walk next S).at_ s).far.toNat, by omega⟩
        have hnS : n ≤ S := by have := (HWF.out.low s hlt).2.1; omega
        have HFN := hide hfn
        obtain ⟨p0, hp0⟩ : ∃ p0, p0 = Rc.pathOf (Rc.walk next S) n s := ⟨_, rfl⟩
        have hp0l : p0.length = n := by rw [hp0]; exact Rc.pathOf_len _ _ _
        have hno := HPI.out.near s hlt n hfn hnS
        rw [← hp0] at hno
        obtain ⟨a0, c0, hus, _, hc0, hcells⟩ := (HOA.out wo HB.out).yes s p0 hno
        have cO := (HOA.out wo HB.out).row.cell s _ hus
        rw [hp0l] at cO
        have HCE : Hid (∀ W, Below wo.heap.size wo W → ∀ (k x : Nat), p0[k]? = some x → x ≤ 64 ∧ W.cell? ⟨a0, k, none⟩ = some (.int .i64 (x : Int))) := fun W hW k x hx => ⟨(hcells k x hx).1, (hW.cell (World.block_lt_of_cell? _ _ (hcells k x hx).2)).trans (hcells k x hx).2⟩
        obtain ⟨ar, dr, cR, hdr, hrc⟩ := HRW.out wo HB.out s hlt
        have HRC : Hid (∀ W, Below wo.heap.size wo W → ∀ i, i < I → W.cell? ⟨ar, i, none⟩ = some (.bool ((row s).getD i false))) := fun W hW i hi => (hW.cell (World.block_lt_of_cell? _ _ (hrc i hi))).trans (hrc i hi)
        have HP0 := hide hp0
        have HPL := hide hp0l
        clear hno hus hcells hrc hfn hneg hp0 hp0l
        go_wp2_with fail
        clear cR cO
        go_loopw [32, 7] (fun i bv wr => ∃ (k : Nat) (b : Option (List Nat)) (xa : Option Addr) (xn xc : Nat), k ≤ I ∧ i = .int .i64 (k : Int) ∧ bv = .slice xa xn xc ∧ Hid (BestV wr b (.slice xa xn xc)) ∧ Hid (Pc.Best next S row b s k) ∧ Hid (Below wo.heap.size wo wr)) (fun i _ _ => I - (intOf i).toNat)
        case atStart => exact ⟨0, b, _, _, _, Nat.zero_le _, rfl, rfl, HBV.out, HBE.out, Below.refl _ _⟩
        case round =>
          clear HBV HBE
          obtain ⟨k, b, xa, xn, xc, hk, rfl, rfl, HBV, HBE, HBK⟩ := hrel
          obtain ⟨wq, hwq⟩ : ∃ wq, wq = wr := ⟨_, rfl⟩
          subst hwq
          by_cases hlt2 : k < I
          · have hki : (k : Int) < (I : Int) := by omega
            have cK := HRC.out wq HBK.out k hlt2
            obtain ⟨gd, hgd⟩ : ∃ gd, gd = (row s).getD k false := ⟨_, rfl⟩
            rw [← hgd] at cK
            have HGD := hide hgd
            have hcells := HCE.out wq HBK.out
            have hbA : Below wq.heap.size wq (wq.alloc (.cells #[] 3)) := (Below.refl _ _).alloc (Nat.le_refl _) _
            have hp0l := HPL.out
            obtain ⟨v1, W2, hrun1, hown1, hgr1⟩ := app_ints (W := wq.alloc (.cells #[] 3)) wq.heap.size 36 (.slice (some ⟨wq.heap.size, 0, none⟩) 0 0) [] p0 (own_zero wq wq.heap.size 3 1 (Nat.le_refl _)) a0 c0 (fun k x hx => (hbA.cell (World.block_lt_of_cell? _ _ (hcells k x hx).2)).trans (hcells k x hx).2) (by simp) (by simp) (by omega)
            have hb12 : Below wq.heap.size wq W2 := hbA.grown hgr1 (by simp) (fun j e => by simp only [Value.ownBlock, Option.some.injEq] at e; omega)
            have hz12 := hb12.size
            have hbC : Below W2.heap.size W2 (W2.alloc (.cells #[.int .i64 (k : Int)] 3)) := (Below.refl _ _).alloc (Nat.le_refl _) _
            obtain ⟨v2, W4, hrun2, hown2, hgr2⟩ := app_ints (W := W2.alloc (.cells #[.int .i64 (k : Int)] 3)) wq.heap.size 36 v1 ([] ++ p0) [k] (by have h1 := hown1.alloc (.cells #[.int .i64 (k : Int)] 3); rw [List.length_append]; exact h1) W2.heap.size 1 (fun j x hx => by
              cases j with
              | succ j => simp at hx
              | zero =>
                simp only [List.getElem?_cons_zero, Option.some.injEq] at hx
                subst hx
                rw [Lib.cell_of_heap (heap_alloc_new _ _)]
                rfl) (by simp; omega) (by simp; omega) (by simp)
            have hb14 : Below wq.heap.size wq W4 := (then_ hb12 hbC).grown hgr2 (by simp; omega) (fun j e => (hown1.lt j e).1)
            rw [List.nil_append] at hown2
            obtain ⟨L, hLn⟩ : ∃ L, L = n + 1 := ⟨_, rfl⟩
            have hl4 : (p0 ++ [k]).length = L := by rw [List.length_append, hp0l, hLn]; rfl
            obtain ⟨bb, cb, hv2, hbq, hcb, hcells2⟩ := own_row hown2 (by simp) (by simp)
            rw [show p0.length + [k].length = L by simp [hp0l, hLn]] at hv2 hcb
            subst hv2
            have HP4 : Hid (∀ (j y : Nat), (p0 ++ [k])[j]? = some y → y ≤ 64 ∧ W4.cell? ⟨bb, j, none⟩ = some (.int .i64 (y : Int))) := fun j y hy => by
              refine ⟨?_, hcells2 j y hy⟩
              by_cases hj : j < p0.length
              · rw [List.getElem?_append_left hj] at hy
                exact (hcells j y hy).1
              · rw [List.getElem?_append_right (by omega)] at hy
                have : j - p0.length < 1 := by have := (List.getElem?_eq_some_iff.1 hy).1; simpa using this
                obtain h0 : j - p0.length = 0 := by omega
                rw [h0] at hy
                simp only [List.getElem?_cons_zero, Option.some.injEq] at hy
                omega
            simp only [hp0l] at hrun1
            simp only [List.length_cons, List.length_nil] at hrun2
            have HAPP1 := hide hrun1
            have HAPP2 := hide hrun2
            have HB14 := hide hb14
            have HBQ4 : Hid (Below wo.heap.size wo W4) := then_ HBK.out hb14
            have HBV4 := hide (HBV.out.below hb14)
            obtain ⟨qv, hqv⟩ : ∃ qv, qv = p0 ++ [k] := ⟨_, rfl⟩
            rw [← hqv] at hl4 HP4
            have HBAD : Hid (gd = false → Pc.Bad next S row s k qv) := fun hg => ⟨n, hlt, HFN.out, by rw [HNL.out]; exact hlt2, by rw [← HGD.out]; exact hg, by rw [hqv, HP0.out]⟩
            have hL5 : L ≤ 5000 := by omega
            have HNV : Hid (BestV W4 (some qv) (.slice (some ⟨bb, 0, none⟩) L cb)) := by
              refine ⟨by rw [hl4]; exact hL5, bb, cb, by rw [hl4], by rw [hl4]; exact hcb, HP4.out⟩
            have HQL := hide hl4
            clear hcells hbA hown1 hgr1 hb12 hbC hown2 hgr2 hb14 hcells2 hrun1 hrun2 hl4 hqv hLn hp0l hgd
            cases gd with
            | true =>
              have HBE2 := hide (HBE.out.good HGD.out.symm)
              go_wp2_with (at_builtin; first | (refine Lib.wpList_append_run _ rfl (.tmp 37) (.tmp 38) _ _ rfl _ _ rfl rfl _ _ HAPP1.out ?_) | (refine Lib.wpList_append_run _ rfl (.tmp 39) (.tmp 41) _ _ rfl _ _ rfl rfl _ _ HAPP2.out ?_))
              go_roundw
              case rel => exact ⟨k + 1, b, _, _, _, by omega, by go_num, rfl, HBV4.out, HBE2.out, HBQ4.out⟩
              case measure => simp [intOf]; omega
            | false =>
              have HBD := hide (HBAD.out rfl)
              clear HBAD
              cases b with
              | none =>
                have hv := HBV.out
                simp only [BestV, Value.slice.injEq] at hv
                obtain ⟨rfl, rfl, rfl⟩ := hv
                have HBE2 := hide (HBE.out.take HBD.out (fun x h => by cases h))
                go_wp2_with (at_builtin; first | (refine Lib.wpList_append_run _ rfl (.tmp 37) (.tmp 38) _ _ rfl _ _ rfl rfl _ _ HAPP1.out ?_) | (refine Lib.wpList_append_run _ rfl (.tmp 39) (.tmp 41) _ _ rfl _ _ rfl rfl _ _ HAPP2.out ?_))
                go_roundw
                case rel => exact ⟨k + 1, some qv, _, _, _, by omega, by go_num, rfl, HNV.out, HBE2.out, HBQ4.out⟩
                case measure => simp [intOf]; omega
              | some y =>
                obtain ⟨hy5, ay, cy, hv, hcy, hcly⟩ := HBV4.out
                simp only [Value.slice.injEq] at hv
                obtain ⟨rfl, hxn, rfl⟩ := hv
                have HYL := hide hxn
                rw [← hxn] at hy5 hcy
                by_cases hLX : L < xn
                · have hLi : (L : Int) < (xn : Int) := by omega
                  have HBE2 := hide (HBE.out.take HBD.out (fun x h => by cases h; exact .inl (by rw [HQL.out, ← HYL.out]; exact hLX)))
                  clear hcly hxn
                  go_wp2_with (at_builtin; first | (refine Lib.wpList_append_run _ rfl (.tmp 37) (.tmp 38) _ _ rfl _ _ rfl rfl _ _ HAPP1.out ?_) | (refine Lib.wpList_append_run _ rfl (.tmp 39) (.tmp 41) _ _ rfl _ _ rfl rfl _ _ HAPP2.out ?_))
                  go_roundw
                  case rel => exact ⟨k + 1, some qv, _, _, _, by omega, by go_num, rfl, HNV.out, HBE2.out, HBQ4.out⟩
                  case measure => simp [intOf]; omega
                have hLi : ¬ (L : Int) < (xn : Int) := by omega
                by_cases hLE : L = xn
                · subst hLE
                  have hLb : ((L : Int) == (L : Int)) = true := by simp
                  have hi1 : Ints W4 (.slice (some ⟨bb, 0, none⟩) L cb) (asI qv) := by have h := ints_row2 (c := cb) (by have := HNV.out; obtain ⟨_, a', c', e, h2, _⟩ := this; simp only [Value.slice.injEq] at e; rw [e.2.2]; exact h2) HP4.out; rw [HQL.out] at h; exact h
                  have hi2 : Ints W4 (.slice (some ⟨ay, 0, none⟩) L xc) (asI y) := by have h := ints_row2 (c := xc) (by rw [← HYL.out]; exact hcy) hcly; rw [← HYL.out] at h; exact h
                  have HBF := hide (before_any qv y _ _ W4 hi1 hi2 (by rw [HQL.out, HYL.out]) (by rw [HQL.out]; omega))
                  clear hi1 hi2 hcly hxn
                  go_wp2_with (at_builtin; first | (refine Lib.wpList_append_run _ rfl (.tmp 37) (.tmp 38) _ _ rfl _ _ rfl rfl _ _ HAPP1.out ?_) | (refine Lib.wpList_append_run _ rfl (.tmp 39) (.tmp 41) _ _ rfl _ _ rfl rfl _ _ HAPP2.out ?_))
                  refine HBF.out.mono ?_
                  rintro e W5 ⟨rfl, hb5⟩
                  have HNV5 := hide (HNV.out.below hb5)
                  have HBV5 := hide (HBV4.out.below hb5)
                  have HBQ5 : Hid (Below wo.heap.size wo W5) := then_ HBQ4.out hb5
                  clear hb5 HBF
                  cases hbf : Rc.bef qv y with
                  | true =>
                    have HBE2 := hide (HBE.out.take HBD.out (fun x h => by cases h; exact .inr ⟨by rw [HQL.out, ← HYL.out], hbf⟩))
                    clear hbf
                    go_wp2_with fail
                    go_roundw
                    case rel => exact ⟨k + 1, some qv, _, _, _, by omega, by go_num, rfl, HNV5.out, HBE2.out, HBQ5.out⟩
                    case measure => simp [intOf]; omega
                  | false =>
                    have HBE2 := hide (HBE.out.keep HBD.out (fun h => by
                      rcases h with h | ⟨_, h⟩
                      · rw [HQL.out, ← HYL.out] at h; exact absurd h (Nat.lt_irrefl _)
                      · rw [hbf] at h; cases h))
                    clear hbf
                    go_wp2_with fail
                    go_roundw
                    case rel => exact ⟨k + 1, some y, _, _, _, by omega, by go_num, rfl, HBV5.out, HBE2.out, HBQ5.out⟩
                    case measure => simp [intOf]; omega
                · have hLb : ((L : Int) == (xn : Int)) = false := by simp; omega
                  have HBE2 := hide (HBE.out.keep HBD.out (fun h => by
                    rcases h with h | ⟨h, _⟩
                    · rw [HQL.out, ← HYL.out] at h; exact hLX h
                    · rw [HQL.out, ← HYL.out] at h; exact hLE h))
                  clear hcly hxn
                  go_wp2_with (at_builtin; first | (refine Lib.wpList_append_run _ rfl (.tmp 37) (.tmp 38) _ _ rfl _ _ rfl rfl _ _ HAPP1.out ?_) | (refine Lib.wpList_append_run _ rfl (.tmp 39) (.tmp 41) _ _ rfl _ _ rfl rfl _ _ HAPP2.out ?_))
                  go_roundw
                  case rel => exact ⟨k + 1, some y, _, _, _, by omega, by go_num, rfl, HBV4.out, HBE2.out, HBQ4.out⟩
                  case measure => simp [intOf]; omega
          · obtain rfl : k = I := by omega
            have HBE2 := hide (HBE.out.next (by rw [HNL.out]; exact Nat.le_refl _))
            have HB2' : Hid (Below w2.heap.size w2 wq) := then_ HB.out HBK.out
            have hki : ¬ (k : Int) < (k : Int) := by omega
            go_wp2_with fail
            go_roundw
            case rel => exact ⟨s + 1, b, _, _, _, by omega, by go_num, rfl, HBV.out, HBE2.out, HB2'.out⟩
            case measure => simp [intOf]; omega
    · obtain rfl : s = S := by omega
      have HF := hide (CheckD.of hS1 HNX.out (then_ HB2.out HB.out) HBV.out HBE.out)
      have hsi : ¬ (s : Int) < (s : Int) := by omega
      go_wp2_with fail
      go_ret
      exact HF.out
end Rf
end
section
open Go.RowKit Go.Maps
namespace In
open Rf (Fr then_ at1 at1d below_al lt_some BestV CheckD GoodAt IsRMach nextsL_small nextsL_map RMachAt RowsI asI_at asI)
theorem neNil_none (w : World) (n c : Nat) : (binOp BinOp.neq 36 (.slice none n c) (.slice none 0 0)).run Tryz.prog w = .ok (.bool false) w := by kernel_rfl
theorem neNil_some (w : World) (a : Addr) (n c : Nat) : (binOp BinOp.neq 36 (.slice (some a) n c) (.slice none 0 0)).run Tryz.prog w = .ok (.bool true) w := by kernel_rfl
def lenO (b : Option (List Nat)) : Nat := match b with
  | none => 0
  | some q => q.length
/-- what the document's Induct comes to -/
def InD (w : World) (next : Nat → List Nat) (row : Nat → List Bool) (any : Nat → Bool) (most : Nat) (e : Ending) (w' : World) : Prop := Below w.heap.size w w' ∧ ∃ b v c k, BestV w' b v ∧ (match b with
  | none => Pr.Held next (Pr.wtC row) 0
  | some q => Pr.Broke next (Pr.wtC row) 0 q ∧ Pr.Least next (Pr.wtC row) 0 q) ∧ In.run b.isSome (lenO b) any most 1 = (c, k) ∧ e = .returned (.tuple #[.int .i64 (c : Int), .int .i64 (k : Int), if c = 2 then v else .slice none 0 0])
theorem BestV.cells {w W : World} {b : Option (List Nat)} {v : Value} (h : BestV w b v) (hc : ∀ g i v, v ≠ .slice none 0 0 → w.cell? ⟨g, i, none⟩ = some v → W.cell? ⟨g, i, none⟩ = some v) : BestV W b v := by
  cases b with
  | none => exact h
  | some q =>
    obtain ⟨h0, a, c, h1, h2, h3⟩ := h
    exact ⟨h0, a, c, h1, h2, fun k x hx => ⟨(h3 k x hx).1, hc _ _ _ (fun e => by cases e) (h3 k x hx).2⟩⟩
theorem GoodAt.cells {w W : World} {o : Value} {S I : Nat} {row : Nat → List Bool} (h : GoodAt w o S I row) (hc : ∀ g i v, v ≠ .slice none 0 0 → w.cell? ⟨g, i, none⟩ = some v → W.cell? ⟨g, i, none⟩ = some v) : GoodAt W o S I row := by
  obtain ⟨b, c, h1, h2, h3⟩ := h
  refine ⟨b, c, h1, h2, fun s hs => ?_⟩
  obtain ⟨a, d, h4, h5, h6⟩ := h3 s hs
  exact ⟨a, d, hc _ _ _ (fun e => by cases e) h4, h5, fun i hi => hc _ _ _ (fun e => by cases e) (h6 i hi)⟩
/-- a nil slice in a block of its own is written over -/
theorem set_over {W : World} {b : Nat} {t : TypeId} (h : W.heap[b]? = some (.cells #[.slice none 0 0] t (0, 0))) (x : Value) : (W.setCell ⟨b, 0, none⟩ x).cell? ⟨b, 0, none⟩ = some x ∧ ∀ g i v, v ≠ .slice none 0 0 → W.cell? ⟨g, i, none⟩ = some v → (W.setCell ⟨b, 0, none⟩ x).cell? ⟨g, i, none⟩ = some v := by
  refine ⟨?_, fun g i v hv hc => ?_⟩
  · have e : (W.setCell ⟨b, 0, none⟩ x).heap[b]? = some (.cells #[x] t (0, 0)) := by simp [World.setCell, Array.getElem?_modify, h]
    rw [Lib.cell_of_heap e]
    rfl
  · by_cases e : g = b
    · subst e
      rw [Lib.cell_of_heap h] at hc
      cases i with
      | zero => exact absurd (Option.some.inj hc).symm hv
      | succ i => simp at hc
    · rw [Rf.set_elsewhere _ _ _ _ _ _ (fun k => e k.symm)]
      exact hc
theorem BestV.slice {w : World} {b : Option (List Nat)} {v : Value} (h : BestV w b v) : ∃ a n c, v = .slice a n c := by
  cases b with
  | none => exact ⟨_, _, _, h⟩
  | some q =>
    obtain ⟨h0, a, c, h1, _⟩ := h
    exact ⟨_, _, _, h1⟩
/-- the first n states -/
theorem any_succ (g : Nat → Bool) (n : Nat) : accI g (n + 1) = (accI g n || g n) := accI_succ g n
theorem anyF_acc (next : Nat → List Nat) (row : Nat → List Bool) (S k : Nat) : anyF next row S k = accI (fails next row k) S := by
  unfold anyF failsL accI
  rw [Bool.eq_iff_iff, List.contains_iff_mem, List.mem_map, List.any_eq_true]
set_option maxHeartbeats 16000000 in
set_option maxRecDepth 100000 in
theorem RInduct_any (bx g : Nat) (p : Ld.Prg) (x : Ex) (most : Nat) (w : World) (hm : IsRMach w bx p) (hL : RLaid w) (hck : Ld.check p = none) (hq6 : (Ld.kindL p.names 1).length ≤ 6) (hS4 : Mc.total (Mc.parts p) ≤ 4096) (hx : IsRx (fun _ => True) w x g) (hnm : ∀ n, n ∈ x.named true → n.length ≤ maxLen) (hm1 : 1 ≤ most) (hm2 : most ≤ 50) :
    Calls Tryz.prog 21 #[.pointer (some ⟨bx, 0, none⟩), .pointer (some ⟨g, 0, none⟩), .int .i64 (most : Int)] w (InD w (Mc.nexts p) (Pr.goodRow p x (2 ^ (Ld.kindL p.names 1).length)) (In.anyF (Mc.nexts p) (Pr.goodRow p x (2 ^ (Ld.kindL p.names 1).length)) (Mc.total (Mc.parts p))) most) := by
  obtain ⟨wA, hwA⟩ : ∃ wA, wA = w.alloc (.cells #[.pointer (some ⟨bx, 0, none⟩)] 23) := ⟨_, rfl⟩
  have hbA : Below w.heap.size w wA := by rw [hwA]; exact below_al _ _
  have hA : wA.heap[w.heap.size]? = some (.cells #[.pointer (some ⟨bx, 0, none⟩)] 23 (0, 0)) := by rw [hwA]; exact heap_alloc_new _ _
  have HGO : Hid (∀ W, Below wA.heap.size wA W → Calls Tryz.prog 14 #[.pointer (some ⟨bx, 0, none⟩), .pointer (some ⟨g, 0, none⟩)] W fun e w' => ∃ o, e = .returned o ∧ GoodAt w' o (Mc.total (Mc.parts p)) (2 ^ (Ld.kindL p.names 1).length) (Pr.goodRow p x (2 ^ (Ld.kindL p.names 1).length)) ∧ Below W.heap.size W w') := fun W hW => Rf.RGood_any bx g p x W (hm.below (then_ hbA hW)) (hL.below (then_ hbA hW)) hck hq6 hS4 (IsRx.stay (Stay.below (then_ hbA hW)) (fun _ h => h) x g hx) hnm
  have HCK : Hid (∀ W, Below wA.heap.size wA W → Calls Tryz.prog 16 #[.pointer (some ⟨bx, 0, none⟩), .pointer (some ⟨g, 0, none⟩)] W (CheckD W (Mc.nexts p) (Pr.goodRow p x (2 ^ (Ld.kindL p.names 1).length)))) := fun W hW => Rf.RCheck_any bx g p x W (hm.below (then_ hbA hW)) (hL.below (then_ hbA hW)) hck hq6 hS4 (IsRx.stay (Stay.below (then_ hbA hW)) (fun _ h => h) x g hx) hnm
  obtain ⟨nv, rv, nx, us0, q0, k1, _, k3⟩ := id hm
  have hrow := k3.rowsI (nextsL_small p hck _ _ hS4)
  rw [nextsL_map p hck] at hrow
  have hnl := fun s => Mc.nexts_len p s
  have hnx : ∀ f s, f < Mc.total (Mc.parts p) → s ∈ Mc.nexts p f → s < Mc.total (Mc.parts p) := fun f s _ hs => Mc.nexts_lt p hck f s hs
  have hrl := fun s => Pr.goodRow_len p x (2 ^ (Ld.kindL p.names 1).length) s
  have hS1 : 1 ≤ Mc.total (Mc.parts p) := Mc.total_pos _ (Mc.parts_ok p)
  have hI64 : 2 ^ (Ld.kindL p.names 1).length ≤ 64 := Nat.le_trans (Nat.pow_le_pow_right (by decide) hq6) (by decide)
  have hI1 : 0 < 2 ^ (Ld.kindL p.names 1).length := Nat.pow_pos (by decide)
  generalize Pr.goodRow p x (2 ^ (Ld.kindL p.names 1).length) = row at *
  generalize Mc.nexts p = next at *
  generalize Mc.total (Mc.parts p) = S at *
  generalize 2 ^ (Ld.kindL p.names 1).length = I at *
  obtain ⟨xa0, xc0, hxs⟩ := hrow.slice
  have hln : ((List.range S).map fun s => asI (next s)).length = S := by simp
  rw [hln] at hxs
  subst hxs
  obtain ⟨gx, hgx, hxc, hNX⟩ : ∃ gx, xa0 = some ⟨gx, 0, none⟩ ∧ S ≤ xc0 ∧ ∀ s, s < S → ∃ g o c, w.cell? ⟨gx, s, none⟩ = some (.slice (some ⟨g, o, none⟩) I c) ∧ I ≤ c ∧ ∀ (i t : Nat), (next s)[i]? = some t → w.cell? ⟨g, o + i, none⟩ = some (.int .i64 (t : Int)) := by
    have hat : ∀ s, s < S → ∃ g u, xa0 = some ⟨g, 0, none⟩ ∧ S ≤ xc0 ∧ w.cell? ⟨g, s, none⟩ = some u ∧ Ints w u (asI (next s)) := fun s hs => hrow.at_ s _ (by simp [hs])
    obtain ⟨gx, _, h1, h2, _⟩ := hat 0 (by omega)
    refine ⟨gx, h1, h2, fun s hs => ?_⟩
    obtain ⟨g', u, h3, _, h4, h5⟩ := hat s hs
    rw [h1] at h3
    obtain rfl : gx = g' := by simpa using h3
    have hl : (asI (next s)).length = I := by rw [Rf.asI_len, hnl]
    rcases h5 with ⟨h6, _⟩ | ⟨gg, oo, cap, h6, h7, h8⟩
    · rw [h6] at hl; simp at hl; omega
    · rw [hl] at h6 h7
      refine ⟨gg, oo, cap, by rw [h4, h6], h7, fun i t ht => ?_⟩
      obtain ⟨hi, e⟩ := List.getElem?_eq_some_iff.1 ht
      have := (h8 i _ (asI_at (next s) i hi)).1
      rw [e] at this
      exact this
  subst hgx
  have HNXT := hide hNX
  have HM := hide k1
  have HNL := hide hnl
  have HNX := hide hnx
  have HRL := hide hrl
  have HBA := hide hbA
  have HA := hide hA
  have ne0 := neNil_none
  have ne1 := neNil_some
  have hfn : ∀ (args : Array Value) (w : World), (callFunc 57 args).run Tryz.prog w = .ok (.enter 57 args) w := fun _ _ => by kernel_rfl
  have hmf : ∀ (fn : Fn) (first cap : Array Value) (w : World), (Instr.makeFunc fn first cap).run Tryz.prog w = .ok (.func fn first cap) w := fun _ _ _ _ => rfl
  have hmm := @run_makeMap Tryz.prog
  have cA : wA.cell? ⟨w.heap.size, 0, none⟩ = some (.pointer (some ⟨bx, 0, none⟩)) := by rw [Lib.cell_of_heap hA]; rfl
  have HZA : Hid (wA.heap.size = w.heap.size + 1) := by show _ = _; rw [hwA]; simp
  have HDR : Hid (Below wA.heap.size wA wA.drew) := ⟨rfl, rfl, rfl, Nat.le_refl _, fun _ _ => rfl⟩
  have HAD : Hid (∀ o, Below wA.heap.size wA (wA.alloc o).drew) := fun o => then_ (below_al wA o) ⟨rfl, rfl, rfl, Nat.le_refl _, fun _ _ => rfl⟩
  have HKE : Hid (∀ W, Below wA.heap.size wA W → W.cell? ⟨w.heap.size, 0, none⟩ = some (.pointer (some ⟨bx, 0, none⟩))) := fun W hW => (hW.cell (World.block_lt_of_cell? _ _ cA)).trans cA
  have HWA := hide hwA
  clear hm hL hck hq6 hx hnm k1 k3 hrow hnl hnx hrl hNX hbA hA hwA hln
  go_enter Tryz.func21, Tryz.ntmps21
  go_upto_region 1 with fail
  rw [← HWA.out]
  go_cut [9, 10] (fun vg vp wx => ∃ b9 go gc xa xn xc b, vg = .pointer (some ⟨b9, 0, none⟩) ∧ vp = .slice xa xn xc ∧ wx.cell? ⟨b9, 0, none⟩ = some (.slice (some ⟨go, 0, none⟩) S gc) ∧ GoodAt wx (.slice (some ⟨go, 0, none⟩) S gc) S I row ∧ BestV wx b (.slice xa xn xc) ∧ (match b with | none => Pr.Held next (Pr.wtC row) 0 | some q => Pr.Broke next (Pr.wtC row) 0 q ∧ Pr.Least next (Pr.wtC row) 0 q) ∧ Below wA.heap.size wA wx)
  case first =>
    go_region_held3 (fun W => W.cell? ⟨w.heap.size, 0, none⟩ = some (.pointer (some ⟨bx, 0, none⟩))) ((refine HKE.out _ ?_; first | exact HDR.out | exact HAD.out _ | exact HB1.out | exact HB2.out | exact (HB2.out.setCell (p := ⟨w1.heap.size, 0, none⟩) HB1.out.size _) | exact (HB2.out.setCell (p := ⟨wA.heap.size, 0, none⟩) (Nat.le_refl _) _) | exact (then_ HB1.out (below_al _ _)) | exact (then_ HB2.out (below_al _ _)) | exact (then_ HDR.out (below_al _ _)) | exact below_al _ _ | exact Below.refl _ _)) ((first
      | (go_at_call 14; (with_reducible refine (HGO.out _ HDR.out).mono ?_); rintro e w1 ⟨o, rfl, hg, hb⟩; obtain ⟨go, gc, rfl, _⟩ := id hg; have HB1 : Hid (Below wA.heap.size wA w1) := then_ HDR.out hb; have HG1 := hide hg; clear hb hg)
      | (go_at_call 14; (with_reducible refine (HGO.out _ (HAD.out _)).mono ?_); rintro e w1 ⟨o, rfl, hg, hb⟩; obtain ⟨go, gc, rfl, _⟩ := id hg; have HB1 : Hid (Below wA.heap.size wA w1) := then_ (HAD.out _) hb; have HV : Hid (w1.heap[wA.heap.size]? = some (.cells #[.slice none 0 0] 31 (0, 0))) := at1d hb; have HG1 := hide hg; clear hb hg)
      | (go_at_call 14; (with_reducible refine (HGO.out _ (then_ HDR.out (below_al _ _))).mono ?_); rintro e w1 ⟨o, rfl, hg, hb⟩; obtain ⟨go, gc, rfl, _⟩ := id hg; have HB1 : Hid (Below wA.heap.size wA w1) := then_ (then_ HDR.out (below_al _ _)) hb; have HV : Hid (w1.heap[wA.heap.size]? = some (.cells #[.slice none 0 0] 31 (0, 0))) := at1 hb; have HG1 := hide hg; clear hb hg)
      | (go_at_call 16; (with_reducible refine (HCK.out _ HB1.out).mono ?_); rintro e w2 ⟨hb, b, v, rfl, hbv, hbr⟩; obtain ⟨xa, xn, xc, hv⟩ := BestV.slice hbv; subst hv; have HB2 : Hid (Below wA.heap.size wA w2) := then_ HB1.out hb; have HV2 := hide ((hb.block _ (lt_some HV.out)).trans HV.out); have t0 : w2.cell? ⟨wA.heap.size, 0, none⟩ = some (.slice none 0 0) := Lib.cell_of_heap HV2.out 0; have t1 := Lib.frozen_of_heap HV2.out 0; have HG2 := hide (HG1.out.below hb); have HBV := hide hbv; have HBR := hide hbr; clear hb hbv hbr)
      | (go_at_call 16; (with_reducible refine (HCK.out _ HB1.out).mono ?_); rintro e w2 ⟨hb, b, v, rfl, hbv, hbr⟩; obtain ⟨xa, xn, xc, hv⟩ := BestV.slice hbv; subst hv; have HB2 : Hid (Below wA.heap.size wA w2) := then_ HB1.out hb; have HG2 := hide (HG1.out.below hb); have HBV := hide hbv; have HBR := hide hbr; clear hb hbv hbr)
      | (go_at_call 16; (with_reducible refine (HCK.out _ (then_ HB1.out (below_al _ _))).mono ?_); rintro e w2 ⟨hb, b, v, rfl, hbv, hbr⟩; obtain ⟨xa, xn, xc, hv⟩ := BestV.slice hbv; subst hv; have HB2 : Hid (Below wA.heap.size wA w2) := then_ (then_ HB1.out (below_al _ _)) hb; have HV2 : Hid (w2.heap[w1.heap.size]? = some (.cells #[.slice none 0 0] 31 (0, 0))) := at1 hb; have t0 : w2.cell? ⟨w1.heap.size, 0, none⟩ = some (.slice none 0 0) := Lib.cell_of_heap HV2.out 0; have t1 := Lib.frozen_of_heap HV2.out 0; have HG2 := hide ((HG1.out.below (below_al _ _)).below hb); have HBV := hide hbv; have HBR := hide hbr; clear hb hbv hbr)))
    all_goals go_wp2_with fail
    all_goals go_meet
    all_goals first
      | exact ⟨_, go, gc, xa, xn, xc, b, rfl, rfl, Lib.cell_of_heap (heap_alloc_new _ _) 0, HG2.out.below (below_al _ _), HBV.out.below (below_al _ _), HBR.out, then_ HB2.out (below_al _ _)⟩
      | exact ⟨_, go, gc, xa, xn, xc, b, rfl, rfl, (set_over HV2.out _).1, GoodAt.cells HG2.out (set_over HV2.out _).2, BestV.cells HBV.out (set_over HV2.out _).2, HBR.out, HB2.out.setCell (p := ⟨w1.heap.size, 0, none⟩) HB1.out.size _⟩
      | exact ⟨_, go, gc, xa, xn, xc, b, rfl, rfl, (set_over HV2.out _).1, GoodAt.cells HG2.out (set_over HV2.out _).2, BestV.cells HBV.out (set_over HV2.out _).2, HBR.out, HB2.out.setCell (p := ⟨wA.heap.size, 0, none⟩) (Nat.le_refl _) _⟩
  case rest =>
    obtain ⟨b9, go, gc, xa, xn, xc, b, rfl, rfl, c9, hga, hbv, hbr, hbc⟩ := hcut
    obtain ⟨wF, hwF⟩ : ∃ wF, wF = ((wc.alloc (.map #[] 0)).alloc (.cells #[.map (some wc.heap.size)] 136)).alloc (.cells #[.func (.func 57) #[] #[.pointer (some ⟨wc.heap.size + 1, 0, none⟩), .pointer (some ⟨w.heap.size, 0, none⟩), .pointer (some ⟨b9, 0, none⟩), .pointer (some ⟨wc.heap.size + 1 + 1, 0, none⟩)]] 137) := ⟨_, rfl⟩
    have hbF : Below wc.heap.size wc wF := by rw [hwF]; exact then_ (then_ (below_al _ _) (below_al _ _)) (below_al _ _)
    have hat3 := Rf.at3 (w := wc) (W := wF) (by rw [hwF]; exact Below.refl _ _)
    have hw0 : Below w.heap.size w wF := then_ HBA.out (then_ hbc hbF)
    have hmemo : Memo wc.heap.size S most next row (fun _ => none) wF := (Memo.made wc S most next row).kept (by rw [hat3.1.1]; exact (heap_alloc_new _ _).symm)
    have hstd : Std S I wc.heap.size (wc.heap.size + 1) w.heap.size b9 (wc.heap.size + 1 + 1) bx go gc gx xc0 next row wF := by
      obtain ⟨bb, cc, e1, hcc, hgd⟩ := hga.below hbF
      simp only [Value.slice.injEq, Option.some.injEq, Addr.mk.injEq, and_true, true_and] at e1
      obtain ⟨rfl, rfl⟩ := e1
      refine ⟨by rw [Lib.cell_of_heap hat3.1.2]; rfl, HKE.out wF (then_ hbc hbF), (hbF.cell (World.block_lt_of_cell? _ _ c9)).trans c9, by rw [Lib.cell_of_heap hat3.2]; rfl, (HM.out.below hw0).cells.2.2, ⟨hcc, hxc⟩, fun s hs => ?_, hgd⟩
      obtain ⟨g', o', c', h1, h2, h3⟩ := HNXT.out s hs
      exact ⟨g', o', c', (hw0.cell (World.block_lt_of_cell? _ _ h1)).trans h1, h2, fun i t ht => (hw0.cell (World.block_lt_of_cell? _ _ (h3 i t ht))).trans (h3 i t ht)⟩
    have HOBJ := hide hmemo.obj
    have HSTD : Hid (∀ W, Fr wc.heap.size wc.heap.size wF W → Std S I wc.heap.size (wc.heap.size + 1) w.heap.size b9 (wc.heap.size + 1 + 1) bx go gc gx xc0 next row W) := fun W hW => hstd.of (cells_stand hmemo.obj hW)
    have hlw : w.heap.size ≤ wc.heap.size := (then_ HBA.out hbc).size
    have HBW : Hid (∀ W, Fr wc.heap.size wc.heap.size wF W → Below w.heap.size w W) := fun W hW => hw0.trans (hW.below hw0.size hlw hlw)
    have HBV : Hid (∀ W, Fr wc.heap.size wc.heap.size wF W → BestV W b (.slice xa xn xc)) := fun W hW => BestV.cells (hbv.below hbF) (fun g i v _ h => cells_stand hmemo.obj hW g i v h)
    have HBAD := hide (bad_any S I most wc.heap.size (wc.heap.size + 1) w.heap.size b9 (wc.heap.size + 1 + 1) bx go gc gx xc0 next row HNL.out HNX.out HRL.out hS4 (by omega) hI64)
    have HMEM := hide hmemo
    have HBR := hide hbr
    have HWF := hide hwF
    have hbl : ∃ q, q = wc.heap.size ∧ wc.heap.size ≤ q := ⟨_, rfl, Nat.le_refl _⟩
    have z9 := c9
    have hXN : (b = none ∧ xa = none ∧ xn = 0 ∧ xc = 0) ∨ ∃ q a, b = some q ∧ xa = some ⟨a, 0, none⟩ ∧ xn = q.length := by
      cases b with
      | none => simp only [BestV, Value.slice.injEq] at hbv; exact .inl ⟨rfl, hbv⟩
      | some q => obtain ⟨_, a, c, e, _⟩ := hbv; simp only [Value.slice.injEq] at e; exact .inr ⟨q, a, rfl, e.1, e.2.1⟩
    have HXN := hide hXN
    have HANY : Hid (∀ k, anyF next row S k = accI (fails next row k) S) := fun k => anyF_acc next row S k
    clear cA c9 hga hbv hbr hbc hbF hat3 hw0 hmemo hstd hwF hbl z9 hXN HGO HCK
    go_wp2_with fail
    rw [← HWF.out]
    generalize hbm : wc.heap.size = bm at *
    clear hbm HWF
    go_loopw [13] (fun kv wr => ∃ (k : Nat) (f : Nat × Nat → Option Value), 1 ≤ k ∧ k ≤ most + 1 ∧ kv = .int .i64 (k : Int) ∧ Hid (In.run b.isSome (lenO b) (anyF next row S) (most + 1 - k) k = In.run b.isSome (lenO b) (anyF next row S) most 1) ∧ Hid (Memo bm S most next row f wr) ∧ Hid (Fr bm bm wF wr)) (fun kv _ => most + 1 - (intOf kv).toNat)
    case atStart => exact ⟨1, _, Nat.le_refl _, by omega, rfl, by show In.run _ _ _ _ _ = _; rw [Nat.add_sub_cancel], HMEM.out, Fr.refl _ _ _⟩
    case round =>
      obtain ⟨k, f, hk1, hk2, rfl, HRUN, HMk, HFk⟩ := hrel
      obtain ⟨wo, hwo⟩ : ∃ wo, wo = wr := ⟨_, rfl⟩
      subst hwo
      by_cases hlt : k ≤ most
      · have hki : (k : Int) ≤ (most : Int) := by omega
        by_cases hR : b.isSome = true ∧ lenO b ≤ k
        · obtain ⟨hR1, hR2⟩ := hR
          rcases HXN.out with ⟨rfl, _⟩ | ⟨q, a, rfl, rfl, rfl⟩
          · cases hR1
          · have hqk : (q.length : Int) ≤ (k : Int) := by have h : q.length ≤ k := hR2; omega
            have HRR : Hid (In.run (some q).isSome (lenO (some q)) (anyF next row S) most 1 = (2, k)) := by
              show _ = _
              rw [← HRUN.out]
              exact In.run_ref _ _ _ _ (by omega) hR2
            have HBVk := hide (HBV.out wo HFk.out)
            have HBWk := hide (HBW.out wo HFk.out)
            clear hR1 hR2
            generalize q.length = L at *
            go_wp2_with fail
            refine bodyPost_ret (results_tmp3 rfl _ _ _) rfl ?_
            exact ⟨HBWk.out, some q, _, 2, k, HBVk.out, HBR.out, HRR.out, by rw [if_pos rfl]; rfl⟩
        · go_upto_region 8 with fail
          go_cut [36] (fun t wx => t = .bool false ∧ wx = wo)
          case first =>
            rcases HXN.out with ⟨rfl, rfl, rfl, rfl⟩ | ⟨q, a, rfl, rfl, rfl⟩
            · go_wp2_with fail
              go_meet
              exact ⟨rfl, rfl⟩
            · have hqk : ¬ (q.length : Int) ≤ (k : Int) := fun h => hR ⟨rfl, by show q.length ≤ k; omega⟩
              generalize q.length = L at *
              go_wp2_with fail
              go_meet
              exact ⟨rfl, rfl⟩
          case rest =>
            obtain ⟨rfl, rfl⟩ := hcut
            have y3 := (HSTD.out wc HFk.out).c3
            have y2 := (HM.out.below (HBW.out wc HFk.out)).cells.2.1.1
            go_wp2_with fail
            clear y3 y2
            go_loopw [43, 14] (fun sv tv wr => ∃ (s : Nat) (f : Nat × Nat → Option Value), s ≤ S ∧ sv = .int .i64 (s : Int) ∧ tv = .bool (!accI (fails next row k) s) ∧ Hid (Memo bm S most next row f wr) ∧ Hid (Fr bm bm wF wr)) (fun sv _ _ => S - (intOf sv).toNat)
            case atStart => exact ⟨0, f, Nat.zero_le _, rfl, rfl, HMk.out, HFk.out⟩
            case round =>
              obtain ⟨s, f2, hs, rfl, rfl, HMs, HFs⟩ := hrel
              obtain ⟨wi, hwi⟩ : ∃ wi, wi = wr := ⟨_, rfl⟩
              subst hwi
              by_cases hlt2 : s < S
              · have hsi : (s : Int) < (S : Int) := by omega
                have HSU : Hid (accI (fails next row k) (s + 1) = (accI (fails next row k) s || fails next row k s)) := accI_succ _ s
                have y12 := (HSTD.out wi HFs.out).c12
                obtain ⟨xb, hxb⟩ : ∃ xb, xb = accI (fails next row k) s := ⟨_, rfl⟩
                rw [← hxb] at HSU ⊢
                clear hxb
                cases xb with
                | true =>
                  go_wp2_with fail
                  go_roundw
                  case rel => exact ⟨s + 1, f2, by omega, by go_num, by rw [HSU.out]; rfl, HMs.out, HFs.out⟩
                  case measure => simp [intOf]; omega
                | false =>
                  have HCL := hide (HBAD.out k hlt s wi f2 hlt2 (HSTD.out wi HFs.out) HMs.out)
                  go_wp2_with fail
                  refine HCL.out.mono ?_
                  rintro e w2 ⟨rfl, f3, hm3, _, hw3⟩
                  have HM3 := hide hm3
                  have HF3 : Hid (Fr bm bm wF w2) := HFs.out.trans hw3
                  generalize fails next row k s = fb at *
                  clear hm3 hw3 HCL
                  go_wp2_with fail
                  go_roundw
                  case rel => exact ⟨s + 1, f3, by omega, by go_num, by rw [HSU.out]; rfl, HM3.out, HF3.out⟩
                  case measure => simp [intOf]; omega
              · obtain rfl : s = S := by omega
                have hsi : ¬ (s : Int) < (s : Int) := by omega
                have hR' : b.isSome = true → ¬ lenO b ≤ k := fun h1 h2 => hR ⟨h1, h2⟩
                obtain ⟨ab, hab⟩ : ∃ ab, ab = accI (fails next row k) s := ⟨_, rfl⟩
                have HAB : Hid (anyF next row s k = ab) := by show _ = _; rw [HANY.out, hab]
                rw [← hab]
                clear hab
                cases ab with
                | false =>
                  have HRR : Hid (In.run b.isSome (lenO b) (anyF next row s) most 1 = (1, k)) := by
                    show _ = _
                    rw [← HRUN.out]
                    exact In.run_prv _ _ _ _ _ (by omega) hR' HAB.out
                  have HBVk := hide (HBV.out wi HFs.out)
                  have HBWk := hide (HBW.out wi HFs.out)
                  clear hR hR'
                  go_wp2_with fail
                  refine bodyPost_ret (results_tmp3 rfl _ _ _) rfl ?_
                  exact ⟨HBWk.out, b, _, 1, k, HBVk.out, HBR.out, HRR.out, by rw [if_neg (by decide)]; rfl⟩
                | true =>
                  have HRR : Hid (In.run b.isSome (lenO b) (anyF next row s) (most + 1 - (k + 1)) (k + 1) = In.run b.isSome (lenO b) (anyF next row s) most 1) := by
                    show _ = _
                    rw [← HRUN.out, In.run_go _ _ _ (most + 1 - k) k (by omega) hR' HAB.out]
                    congr 1
                  clear hR hR'
                  go_wp2_with fail
                  go_roundw
                  case rel => exact ⟨k + 1, f2, by omega, by omega, by go_num, HRR.out, HMs.out, HFs.out⟩
                  case measure => simp [intOf]; omega
      · obtain rfl : k = most + 1 := by omega
        have hki : ¬ ((most + 1 : Nat) : Int) ≤ (most : Int) := by omega
        have HRR : Hid (In.run b.isSome (lenO b) (anyF next row S) most 1 = (3, most)) := by
          show _ = _
          rw [← HRUN.out, Nat.sub_self]
          rfl
        have HBVk := hide (HBV.out wo HFk.out)
        have HBWk := hide (HBW.out wo HFk.out)
        clear HRUN
        go_wp2_with fail
        refine bodyPost_ret (results_tmp3 rfl _ _ _) rfl ?_
        exact ⟨HBWk.out, b, _, 3, most, HBVk.out, HBR.out, HRR.out, by rw [if_neg (by decide)]; rfl⟩
end In
end
end Go.Proofs.YtgldbliohpfljaaGreatDoor
