/-
  Plain mathematics of chapter 1: what is made tidy is no greater; parts are gathered one by one; what is read has the form of an expression; a text tells its expression. Nothing of the program is named here. Plain mathematics of chapter 12: a program that is made tidy may be, and does the same, scan by scan. Nothing of the program is named here.
-/
import Derived.Test.YtgoabhclnicepaaGreatDoorTdSame
import Derived.Test.YtgoabhclnicepaaGreatDoorRtParse
import Derived.Test.YtgoabhclnicepaaGreatDoorRfMathAll
namespace Go.Proofs.YtgoabhclnicepaaGreatDoor
section
namespace Ex
theorem size_pos (x : Ex) : 1 ≤ x.size := by
  obtain ⟨k, n, l⟩ := x
  rw [size_def]; omega
theorem size_other (x : Ex) : (other x).size ≤ 1 + x.size := by
  unfold other
  by_cases h : x.kind = 5
  · rw [if_pos h]
    obtain ⟨k, n, l⟩ := x
    match l with
    | [] => simp
    | a :: r => simp only [List.headD_cons]; rw [size_def]; simp; omega
  · rw [if_neg h, size_def]; simp
theorem size_notT (t : Ex) : (notT t).size ≤ 1 + t.size := by
  unfold notT
  by_cases h0 : t.kind = 0
  · rw [if_pos h0, size_def]; simp
  · rw [if_neg h0]
    by_cases h1 : t.kind = 1
    · rw [if_pos h1, size_def]; simp
    · rw [if_neg h1]; exact size_other t
theorem nc_sum (L : List Ex) : ((nc L).map fun x => x.size).sum ≤ (L.map fun x => x.size).sum := by
  induction L with
  | nil => simp [nc]
  | cons a r ih =>
    unfold nc at *
    rw [List.filter_cons]
    split
    · simp only [List.map_cons, List.sum_cons]; omega
    · simp only [List.map_cons, List.sum_cons]; omega
theorem size_gather (k : Nat) (L : List Ex) : (gather k L).size ≤ 1 + (L.map fun x => x.size).sum := by
  by_cases hd : dec k L
  · rw [gather_dec k L hd, size_def]; simp
  · rw [gather_not k L hd]
    have h1 := addAll_sum (nc L) []
    have h2 := nc_sum L
    simp only [List.map_nil, List.sum_nil, Nat.zero_add] at h1
    generalize addAll [] (nc L) = U at *
    match U, h1 with
    | [], _ => show size ⟨_, _, _⟩ ≤ _; rw [size_def]; simp
    | [p], h1 => simp only [List.map_cons, List.map_nil, List.sum_cons, List.sum_nil] at h1; show p.size ≤ _; omega
    | a :: b :: r, h1 => show size ⟨k, [], a :: b :: r⟩ ≤ _; rw [size_def]; omega
theorem pieces_sum (k : Nat) (t : Ex) : ((pieces k t).map fun x => x.size).sum ≤ t.size := by
  unfold pieces
  split
  · obtain ⟨j, n, l⟩ := t
    show (l.map fun x => x.size).sum ≤ _
    rw [size_def]; omega
  · simp
theorem flat_sum (k : Nat) (l : List Ex) (h : ∀ y, y ∈ l → y.tidy.size ≤ y.size) : ((l.map fun x => pieces k x.tidy).flatten.map fun x => x.size).sum ≤ (l.map fun x => x.size).sum := by
  induction l with
  | nil => simp
  | cons a r ih =>
    have h1 := ih fun y hy => h y (by simp [hy])
    have h2 := pieces_sum k a.tidy
    have h3 := h a (by simp)
    simp only [List.map_cons, List.flatten_cons, List.map_append, List.sum_append, List.sum_cons]
    omega
/-- what is made tidy is no greater -/
theorem size_tidy (x : Ex) : Wf x → x.tidy.size ≤ x.size := by
  induction x using Ex.ind with
  | h k nm l ih =>
    intro h
    rw [Wf.def] at h
    obtain ⟨hs, hl⟩ := h
    have hf := fun k => flat_sum k l fun y hy => ih y hy (hl y hy)
    rcases hs with ⟨h1, h2, h3⟩ | ⟨h1, h2, h3, h4⟩ | ⟨rfl, rfl, h3⟩ | ⟨h1, h2, rfl, h4⟩
    · rw [tidy_leaf k (by omega)]; exact Nat.le_refl _
    · rw [tidy_leaf k h2]; exact Nat.le_refl _
    · match l, h3, ih, hl with
      | [y], _, ih, hl =>
        have h1 := ih y (by simp) (hl y (by simp))
        have h2 := size_notT y.tidy
        rw [tidy5, size_def]
        simp
        omega
    · by_cases h6 : k = 6
      · subst h6
        have := size_gather 6 (l.map fun x => pieces 6 x.tidy).flatten
        have := hf 6
        rw [tidy6, size_def]
        omega
      · have h7 : k = 7 := by omega
        subst h7
        have := size_gather 7 (l.map fun x => pieces 7 x.tidy).flatten
        have := hf 7
        rw [tidy7, size_def]
        omega
/-! the program's own way: lists of the same kind within are gone through right here -/
def sq (k : Nat) : Ex → List Ex
  | ⟨j, n, l⟩ => if j = k then (l.map fun x => sq k x).flatten else pieces k (tidy ⟨j, n, l⟩)
theorem sq_in (k : Nat) (n : List UInt8) (l : List Ex) : sq k ⟨k, n, l⟩ = (l.map fun x => sq k x).flatten := by simp [sq]
theorem sq_out (k : Nat) (x : Ex) (h : x.kind ≠ k) : sq k x = pieces k x.tidy := by
  obtain ⟨j, n, l⟩ := x
  rw [sq]
  exact if_neg h
theorem gather_list (k : Nat) (f g : Ex → List Ex) (l : List Ex) (h : ∀ y, y ∈ l → ∀ A B, gather k (A ++ f y ++ B) = gather k (A ++ g y ++ B)) : ∀ A B, gather k (A ++ (l.map f).flatten ++ B) = gather k (A ++ (l.map g).flatten ++ B) := by
  induction l with
  | nil => intro A B; rfl
  | cons a r ih =>
    intro A B
    simp only [List.map_cons, List.flatten_cons]
    have h1 := h a (by simp) A ((r.map f).flatten ++ B)
    have h2 := ih (fun y hy => h y (by simp [hy])) (A ++ g a) B
    simp only [List.append_assoc] at *
    rw [h1, h2]
theorem gather_sq (k : Nat) (h6 : 6 ≤ k) (h7 : k ≤ 7) (x : Ex) : Wf x → ∀ A B, gather k (A ++ sq k x ++ B) = gather k (A ++ pieces k x.tidy ++ B) := by
  induction x using Ex.ind with
  | h j nm l ih =>
    intro h A B
    by_cases hj : j = k
    · subst hj
      rw [Wf.def] at h
      have hl := h.2
      have ht : tidy ⟨j, nm, l⟩ = gather j (l.map fun x => pieces j x.tidy).flatten := by
        by_cases h6' : j = 6
        · subst h6'; exact tidy6 nm l
        · have h7' : j = 7 := by omega
          subst h7'; exact tidy7 nm l
      rw [sq_in, ht, gather_in j h6 A _ B fun y hy => (td_flat j l (fun y hy => td_tidy y (hl y hy)) y hy).2]
      exact gather_list j _ _ l (fun y hy A B => ih y hy (hl y hy) A B) A B
    · rw [sq_out k _ hj]
theorem tidy_sq (k : Nat) (h6 : 6 ≤ k) (h7 : k ≤ 7) (nm : List UInt8) (l : List Ex) (h : Wf ⟨k, nm, l⟩) : tidy ⟨k, nm, l⟩ = gather k (l.map fun x => sq k x).flatten := by
  have hl := ((Wf.def _ _ _).1 h).2
  have ht : tidy ⟨k, nm, l⟩ = gather k (l.map fun x => pieces k x.tidy).flatten := by
    by_cases h6' : k = 6
    · subst h6'; exact tidy6 nm l
    · have h7' : k = 7 := by omega
      subst h7'; exact tidy7 nm l
  rw [ht]
  have := gather_list k (sq k) (fun x => pieces k x.tidy) l (fun y hy A B => gather_sq k h6 h7 y (hl y hy) A B) [] []
  simpa using this.symm
/-! one by one -/
theorem other_other {x : Ex} (h : Td x) (h2 : 2 ≤ x.kind) : other (other x) = x := by
  by_cases h5 : x.kind = 5
  · obtain ⟨y, rfl, _, _, h5'⟩ := h.not h5
    show other y = _
    unfold other
    rw [if_neg h5']
  · unfold other
    rw [if_neg h5]
    rfl
theorem other_ne {x : Ex} (h : Td x) : other x ≠ x := by
  intro e
  by_cases h5 : x.kind = 5
  · obtain ⟨y, rfl, _, _, h5'⟩ := h.not h5
    exact h5' (by rw [show y = (⟨5, [], [y]⟩ : Ex) from e])
  · unfold other at e
    rw [if_neg h5] at e
    exact h5 (by rw [← e])
theorem dec_step (k : Nat) (L : List Ex) (x : Ex) (hL : ∀ y, y ∈ L → Td y) (hx : Td x) : dec k (L ++ [x]) ↔ dec k L ∨ x.kind = allK k ∨ (2 ≤ x.kind ∧ other x ∈ nc L) := by
  constructor
  · rintro (⟨y, hy, e⟩ | ⟨y, hy, ho⟩)
    · simp only [List.mem_append, List.mem_singleton] at hy
      rcases hy with hy | hy
      · exact .inl (.inl ⟨y, hy, e⟩)
      · subst hy; exact .inr (.inl e)
    · rw [nc_append, List.mem_append] at hy ho
      rcases hy with hy | hy
      · rcases ho with ho | ho
        · exact .inl (.inr ⟨y, hy, ho⟩)
        · have h1 := (mem_nc _ _).1 ho
          have e := List.mem_singleton.1 h1.1
          refine .inr (.inr ⟨by rw [← e]; exact h1.2, ?_⟩)
          rw [← e, other_other (hL y ((mem_nc _ _).1 hy).1) ((mem_nc _ _).1 hy).2]
          exact hy
      · have h1 := (mem_nc _ _).1 hy
        have e := List.mem_singleton.1 h1.1
        subst e
        rcases ho with ho | ho
        · exact .inr (.inr ⟨h1.2, ho⟩)
        · exact absurd (List.mem_singleton.1 ((mem_nc _ _).1 ho).1) (other_ne hx)
  · rintro (h | h | ⟨h, ho⟩)
    · have := dec_mono k [] L [x] h
      simpa using this
    · exact .inl ⟨x, by simp, h⟩
    · refine .inr ⟨x, (mem_nc _ _).2 ⟨by simp, h⟩, ?_⟩
      rw [nc_append, List.mem_append]
      exact .inl ho
/-! what is read has the form of an expression -/
theorem FitP.wf : ∀ (D : Nat) (x : Ex), FitP D x → Wf x := by
  intro D
  induction D with
  | zero => intro x h; exact absurd h (by simp [FitP])
  | succ D ih =>
    have hq : ∀ y, FitQ (FitP D) y → Wf y := by
      intro y h
      rcases h with ⟨h1, h2, h3, h4⟩ | ⟨_, h2⟩
      · obtain ⟨k, nm, l⟩ := y
        simp only at h1 h2 h3 h4
        rw [Wf.def]
        exact ⟨.inr (.inr (.inr ⟨by omega, by omega, h2, h3⟩)), fun z hz => ih z (h4 z hz)⟩
      · exact ih y h2
    intro x h
    obtain ⟨k, nm, l⟩ := x
    simp only [FitP] at h
    rw [Wf.def]
    rcases h with ⟨h1, h2, h3⟩ | ⟨h1, h2, h3, h4⟩ | ⟨h1, h2, y, h3, h4⟩ | ⟨h1, h2, h3, h4⟩ | ⟨h1, h2, h3, h4⟩
    · subst h3; exact ⟨.inl ⟨h1, h2, rfl⟩, by simp⟩
    · subst h4; exact ⟨.inr (.inl ⟨h1, h2, h3, rfl⟩), by simp⟩
    · subst h3; exact ⟨.inr (.inr (.inl ⟨h1, h2, rfl⟩)), fun z hz => by simp only [List.mem_singleton] at hz; subst hz; exact ih _ h4⟩
    · exact ⟨.inr (.inr (.inr ⟨by omega, by omega, h2, h3⟩)), fun z hz => ih z (h4 z hz)⟩
    · exact ⟨.inr (.inr (.inr ⟨by omega, by omega, h2, h3⟩)), fun z hz => hq z (h4 z hz)⟩
theorem parse_wf (l : List UInt8) (x : Ex) (h : parse l = .inr x) : Wf x := FitP.wf 21 x (FitW.piece 20 x (parse_fit l x h))
theorem FitP.monos (x : Ex) (D : Nat) : ∀ E, D ≤ E → FitP D x → FitP E x := by
  intro E hE h
  induction hE with
  | refl => exact h
  | step _ ih => exact FitP.mono _ x ih
theorem size_mem (l : List Ex) (y : Ex) (h : y ∈ l) : y.size ≤ (l.map fun x => x.size).sum := by
  induction l with
  | nil => simp at h
  | cons a r ih =>
    simp only [List.map_cons, List.sum_cons]
    rcases List.mem_cons.1 h with rfl | h
    · omega
    · have := ih h; omega
theorem Wf.fit (x : Ex) : Wf x → FitP x.size x := by
  induction x using Ex.ind with
  | h k nm l ih =>
    intro h
    rw [Wf.def] at h
    obtain ⟨hs, hl⟩ := h
    rw [size_def, Nat.add_comm]
    have hp : ∀ y, y ∈ l → FitP (l.map fun x => x.size).sum y := fun y hy => FitP.monos y _ _ (size_mem l y hy) (ih y hy (hl y hy))
    simp only [FitP]
    rcases hs with ⟨h1, h2, h3⟩ | ⟨h1, h2, h3, h4⟩ | ⟨h1, h2, h3⟩ | ⟨h1, h2, h3, h4⟩
    · exact .inl ⟨h1, h2, List.length_eq_zero_iff.1 h3⟩
    · exact .inr (.inl ⟨h1, h2, h3, List.length_eq_zero_iff.1 h4⟩)
    · match l, h3, hp with
      | [y], _, hp => exact .inr (.inr (.inl ⟨h1, h2, y, rfl, hp y (by simp)⟩))
    · by_cases h6 : k = 6
      · exact .inr (.inr (.inr (.inl ⟨h6, h3, h4, hp⟩)))
      · exact .inr (.inr (.inr (.inr ⟨by omega, h3, h4, fun y hy => FitP.part _ y (hp y hy)⟩)))
theorem Td.wf (x : Ex) : Td x → Wf x := by
  induction x using Ex.ind with
  | h k nm l ih =>
    intro h
    rw [Td.def] at h
    rw [Wf.def]
    exact ⟨h.1, fun y hy => ih y hy (h.2.2.2 y hy)⟩
/-- a text tells its expression -/
theorem text_read (x : Ex) (D : Nat) (h : FitP D x) : ∃ m, wholeP x.text (pieceP x.text D) 0 = .inr (x, m) := by
  have hW := whole_back x.text D (piece_back x.text D) x (FitQ.whole D x (FitP.part D x h))
  obtain ⟨c, r, hc, hc32⟩ := hW.2
  have hsk : skip x.text 0 = ([] : List UInt8).length := by rw [hc]; exact skip_cons c r hc32
  obtain ⟨m, hm, _, _⟩ := hW.1 [] [] 0 (by simp) ⟨by simp [Stop, sg, ends], by simp [nxt, sg, skip], by simp [nxt, sg, skip]⟩ (Nat.zero_le _) hsk
  exact ⟨m, hm⟩
theorem text_inj (x y : Ex) (hx : Wf x) (hy : Wf y) (h : x.text = y.text) : x = y := by
  have h1 := FitP.monos x _ (x.size + y.size) (by omega) (Wf.fit x hx)
  have h2 := FitP.monos y _ (x.size + y.size) (by omega) (Wf.fit y hy)
  obtain ⟨m, e1⟩ := text_read x _ h1
  obtain ⟨n, e2⟩ := text_read y _ h2
  rw [h] at e1
  rw [e1] at e2
  simp only [Sum.inr.injEq, Prod.mk.injEq] at e2
  exact e2.1
end Ex
end
section
namespace Ex
theorem named_mem (k : Nat) (n : List UInt8) (l : List Ex) (y : Ex) (hk : k ≠ 2 ∧ k ≠ 3 ∧ k ≠ 4) (hy : y ∈ l) (s : List UInt8) (h : s ∈ y.named true) : s ∈ named true ⟨k, n, l⟩ := by
  rw [named_of _ _ _ _ hk, List.mem_flatten]
  exact ⟨_, List.mem_map_of_mem hy, h⟩
theorem named_inv (k : Nat) (n : List UInt8) (l : List Ex) (hk : k ≠ 2 ∧ k ≠ 3 ∧ k ≠ 4) (s : List UInt8) (h : s ∈ named true ⟨k, n, l⟩) : ∃ y, y ∈ l ∧ s ∈ y.named true := by
  rw [named_of _ _ _ _ hk, List.mem_flatten] at h
  obtain ⟨L, h1, h2⟩ := h
  obtain ⟨y, hy, rfl⟩ := List.mem_map.1 h1
  exact ⟨y, hy, h2⟩
theorem named_other (x : Ex) (s : List UInt8) (h : s ∈ (other x).named true) : s ∈ x.named true := by
  obtain ⟨k, n, l⟩ := x
  unfold other at h
  by_cases h5 : k = 5
  · subst h5
    simp only [if_true] at h
    cases l with
    | nil => exact h
    | cons a r => exact named_mem 5 n (a :: r) a (by decide) (by simp) s h
  · rw [if_neg h5] at h
    obtain ⟨y, hy, h2⟩ := named_inv 5 [] _ (by decide) s h
    have : y = ⟨k, n, l⟩ := by simpa using hy
    rw [this] at h2
    exact h2
theorem named_notT (t : Ex) (s : List UInt8) (h : s ∈ (notT t).named true) : s ∈ t.named true := by
  unfold notT at h
  split at h
  · obtain ⟨y, hy, _⟩ := named_inv 1 [] [] (by decide) s h
    cases hy
  · split at h
    · obtain ⟨y, hy, _⟩ := named_inv 0 [] [] (by decide) s h
      cases hy
    · exact named_other t s h
theorem named_pieces (k : Nat) (hk : 5 ≤ k) (t y : Ex) (hy : y ∈ pieces k t) (s : List UInt8) (h : s ∈ y.named true) : s ∈ t.named true := by
  obtain ⟨j, n, l⟩ := t
  unfold pieces at hy
  by_cases e : j = k
  · subst e
    simp only [if_true] at hy
    exact named_mem j n l y ⟨by omega, by omega, by omega⟩ hy s h
  · rw [if_neg e] at hy
    have : y = ⟨j, n, l⟩ := by simpa using hy
    rw [← this]
    exact h
theorem named_gather (k : Nat) (hk : 5 ≤ k) (L : List Ex) (s : List UInt8) (h : s ∈ (gather k L).named true) : ∃ y, y ∈ L ∧ s ∈ y.named true := by
  by_cases hd : dec k L
  · rw [gather_dec k L hd] at h
    have h1 := allK_le k
    obtain ⟨y, hy, _⟩ := named_inv (allK k) [] [] ⟨by omega, by omega, by omega⟩ s h
    cases hy
  · rw [gather_not k L hd] at h
    have hsub : ∀ y, y ∈ addAll [] (nc L) → y ∈ L := fun y hy => by
      rcases (mem_addAll y (nc L) []).1 hy with h1 | h1
      · cases h1
      · exact ((mem_nc y L).1 h1).1
    match hL : addAll [] (nc L), h with
    | [], h =>
      have h1 := noneK_le k
      obtain ⟨y, hy, _⟩ := named_inv (noneK k) [] [] ⟨by omega, by omega, by omega⟩ s h
      cases hy
    | [p], h => exact ⟨p, hsub p (by rw [hL]; simp), h⟩
    | p :: q :: r, h =>
      obtain ⟨y, hy, h2⟩ := named_inv k [] (p :: q :: r) ⟨by omega, by omega, by omega⟩ s h
      exact ⟨y, hsub y (by rw [hL]; exact hy), h2⟩
theorem named_tidy (x : Ex) : Wf x → ∀ s, s ∈ x.tidy.named true → s ∈ x.named true := by
  induction x using Ex.ind with
  | h k nm l ih =>
    intro h s hs1
    rw [Wf.def] at h
    obtain ⟨hs, hl⟩ := h
    have hg : ∀ k, 6 ≤ k → s ∈ (gather k (l.map fun x => pieces k x.tidy).flatten).named true → s ∈ named true ⟨k, nm, l⟩ := by
      intro k hk h
      obtain ⟨y, hy, h2⟩ := named_gather k (by omega) _ s h
      obtain ⟨L, h3, h4⟩ := List.mem_flatten.1 hy
      obtain ⟨z, hz, rfl⟩ := List.mem_map.1 h3
      exact named_mem k nm l z ⟨by omega, by omega, by omega⟩ hz s (ih z hz (hl z hz) s (named_pieces k (by omega) _ y h4 s h2))
    rcases hs with ⟨h1, h2, h3⟩ | ⟨h1, h2, h3, h4⟩ | ⟨rfl, rfl, h3⟩ | ⟨h1, h2, rfl, h4⟩
    · rw [tidy_leaf k (by omega)] at hs1; exact hs1
    · rw [tidy_leaf k h2] at hs1; exact hs1
    · match l, h3, ih, hl, hs1 with
      | [y], _, ih, hl, hs1 =>
        rw [tidy5] at hs1
        exact named_mem 5 [] [y] y (by decide) (by simp) s (ih y (by simp) (hl y (by simp)) s (named_notT _ s hs1))
    · by_cases h6 : k = 6
      · subst h6; rw [tidy6] at hs1; exact hg 6 (by omega) hs1
      · have h7 : k = 7 := by omega
        subst h7; rw [tidy7] at hs1; exact hg 7 (by omega) hs1
end Ex
namespace Sl
/-- a rung, made tidy -/
def tidyR (r : Ld.Rng) : Ld.Rng := ⟨r.kind, r.name, r.cond.map Ex.tidy⟩
/-- does a rung of such a kind do nothing where its expression is 0? -/
def idleK (k : Int) : Bool := k == 2 || k == 3 || k == 5 || k == 6
def idle (r : Ld.Rng) : Bool := idleK r.kind && (match r.cond with | some x => x.kind == 0 | none => false)
def tidy (p : Ld.Prg) : Ld.Prg := ⟨p.names, (p.rungs.map tidyR).filter fun r => !idle r⟩
/-- all expressions have their form -/
def WfP (p : Ld.Prg) : Prop := ∀ r, r ∈ p.rungs → ∀ x, r.cond = some x → x.Wf
theorem tidy_rung (p : Ld.Prg) (r : Ld.Rng) (h : r ∈ (tidy p).rungs) : ∃ r', r' ∈ p.rungs ∧ r = tidyR r' ∧ idle (tidyR r') = false := by
  unfold tidy at h
  obtain ⟨h1, h2⟩ := List.mem_filter.1 h
  obtain ⟨r', h3, rfl⟩ := List.mem_map.1 h1
  exact ⟨r', h3, rfl, by simpa using h2⟩
theorem tidy_fewer (p : Ld.Prg) : (tidy p).rungs.length ≤ p.rungs.length := by
  unfold tidy
  refine Nat.le_trans (List.length_filter_le _ _) ?_
  simp
theorem wrong_tidy (p : Ld.Prg) (hw : WfP p) (r : Ld.Rng) (hr : r ∈ p.rungs) (h : Ld.wrongR p.names r = 0) : Ld.wrongR p.names (tidyR r) = 0 := by
  have hwr := hw r hr
  obtain ⟨k, n, c⟩ := r
  unfold Ld.wrongR at h ⊢
  unfold tidyR
  by_cases h1 : k < 1 ∨ 6 < k
  · simp only [h1, if_true] at h
    omega
  · simp only [h1, if_false] at h ⊢
    cases c with
    | none => simp at h
    | some x =>
      simp only [Option.map_some] at h ⊢
      by_cases h2 : Ld.number p.names n < 0
      · simp [h2] at h
      · rw [if_neg h2] at h ⊢
        by_cases h3 : Ld.kindAt p.names (Ld.number p.names n) ≠ Ld.kindOf k
        · rw [if_pos h3] at h
          omega
        · rw [if_neg h3] at h ⊢
          by_cases h4 : Ld.known p.names x = true
          · have h5 : Ld.known p.names x.tidy = true := by
              unfold Ld.known at h4 ⊢
              rw [List.all_eq_true] at h4 ⊢
              exact fun s hs => h4 s (Ex.named_tidy x (hwr x rfl) s hs)
            rw [if_pos h5]
          · rw [if_neg h4] at h
            omega
theorem bad_of_zero (f : Nat → Nat) : ∀ n, (∀ i, i < n → f i = 0) → Ld.bad f n = none
  | 0, _ => rfl
  | n + 1, h => Ld.bad_on f n (bad_of_zero f n fun i hi => h i (by omega)) (h n (by omega))
theorem check_parts (p : Ld.Prg) : Ld.check p = none ↔ (p.names.length ≤ 12 ∧ p.rungs.length ≤ 40) ∧ Ld.bad (Ld.nameAt p.names) p.names.length = none ∧ ∀ r, r ∈ p.rungs → Ld.wrongR p.names r = 0 := by
  unfold Ld.check
  by_cases hl : 12 < p.names.length ∨ 40 < p.rungs.length
  · rw [if_pos hl]
    constructor
    · intro h; cases h
    · intro h; omega
  · rw [if_neg hl]
    cases hn : Ld.bad (Ld.nameAt p.names) p.names.length with
    | some r =>
      constructor
      · intro h; cases h
      · intro h; cases h.2.1
    | none =>
      simp only
      cases hr : Ld.bad (Ld.rungAt p) p.rungs.length with
      | some r =>
        obtain ⟨e, i⟩ := r
        obtain ⟨h1, h2, h3⟩ := Ld.bad_lt _ _ _ _ hr
        constructor
        · intro h; cases h
        · intro h
          have := h.2.2 _ (List.getElem_mem h1)
          rw [Ld.rungAt_at _ _ h1, this] at h2
          exact absurd h2 h3
      | none =>
        simp only [true_and]
        refine ⟨fun _ => ⟨by omega, fun r hm => ?_⟩, fun _ => trivial⟩
        obtain ⟨i, hi, rfl⟩ := List.getElem_of_mem hm
        have := Ld.bad_none _ _ hr i hi
        rwa [Ld.rungAt_at _ _ hi] at this
theorem check_tidy (p : Ld.Prg) (hw : WfP p) (h : Ld.check p = none) : Ld.check (tidy p) = none := by
  obtain ⟨⟨h1, h2⟩, h3, h4⟩ := (check_parts p).1 h
  refine (check_parts (tidy p)).2 ⟨⟨h1, Nat.le_trans (tidy_fewer p) h2⟩, h3, fun r hr => ?_⟩
  obtain ⟨r', h5, rfl, _⟩ := tidy_rung p r hr
  exact wrong_tidy p hw r' h5 (h4 r' h5)
/-- a rung that is made tidy does the same -/
theorem doRung_tidy (ns : List Ld.Nme) (was : List Bool) (s : Sc.St) (r : Ld.Rng) (hw : ∀ x, r.cond = some x → x.Wf) : Sc.doRung ns was s (tidyR r) = Sc.doRung ns was s r := by
  unfold Sc.doRung tidyR
  cases hc : r.cond with
  | none => rfl
  | some x =>
    simp only [Option.map_some]
    rw [Ex.eval_tidy _ _ x (hw x hc)]
/-- one that is idle does nothing -/
theorem doRung_idle (p : Ld.Prg) (hck : Ld.check p = none) (was : List Bool) (s : Sc.St) (hb : Sc.Bd p s) (r : Ld.Rng) (hr : r ∈ p.rungs) (hw : ∀ x, r.cond = some x → x.Wf) (hi : idle (tidyR r) = true) : Sc.doRung p.names was s r = s := by
  obtain ⟨h1, h2, h3, h4, x, h5, _⟩ := Ld.check_rungs p hck r hr
  rcases Ld.number_cases p.names r.name with ⟨h6, _⟩ | ⟨n, hn, h6, _⟩
  · omega
  have hk : p.names[n].kind = Ld.kindOf r.kind := by
    rw [← h4, Ld.kindAt, h6, Int.toNat_natCast, List.getElem?_eq_getElem hn]
  have h7 : ∀ is wa, x.eval is wa = false := fun is wa => by
    rw [← Ex.eval_tidy is wa x (hw x h5)]
    refine Ex.eval_0 is wa _ ?_
    unfold idle tidyR at hi
    rw [h5] at hi
    simp only [Option.map_some, Bool.and_eq_true, beq_iff_eq] at hi
    exact hi.2
  have h8 : r.kind = 2 ∨ r.kind = 3 ∨ r.kind = 5 ∨ r.kind = 6 := by
    unfold idle idleK tidyR at hi
    simp only [Bool.and_eq_true, Bool.or_eq_true, beq_iff_eq] at hi
    omega
  unfold Sc.doRung
  rw [h5]
  simp only
  rw [if_pos h3, h7, h6, Int.toNat_natCast]
  have e2 : (p.names.getD n ⟨[], 0, 0⟩).count = p.names[n].count := by simp [hn]
  rw [e2]
  have hset : s.is.set n (s.is.getD n false) = s.is := by
    have : s.is.getD n false = s.is[n]'(by rw [hb.li]; exact hn) := by simp [hb.li, hn]
    rw [this, List.set_getElem_self]
  have hset2 : s.ct.set n (s.ct.getD n 0) = s.ct := by
    have : s.ct.getD n 0 = s.ct[n]'(by rw [hb.lc]; exact hn) := by simp [hb.lc, hn]
    rw [this, List.set_getElem_self]
  rcases h8 with e | e | e | e
  · rw [e]
    show (⟨s.is.set n (s.is.getD n false || false), s.ct⟩ : Sc.St) = s
    rw [Bool.or_false, hset]
  · rw [e]
    show (⟨s.is.set n (s.is.getD n false && !false), s.ct⟩ : Sc.St) = s
    rw [Bool.not_false, Bool.and_true, hset]
  · rw [e] at hk ⊢
    have hk2 : p.names[n].kind = 4 := hk
    have h9 := (hb.at_ n hn).2.2 (by omega)
    show (⟨s.is.set n (s.ct.getD n 0 == p.names[n].count), s.ct.set n (s.ct.getD n 0)⟩ : Sc.St) = s
    rw [← h9, hset, hset2]
  · rw [e]
    rfl
theorem fold_tidy (p : Ld.Prg) (hck : Ld.check p = none) (hw : WfP p) (was : List Bool) : ∀ (rs : List Ld.Rng), (∀ r, r ∈ rs → r ∈ p.rungs) → ∀ s, Sc.Bd p s →
    ((rs.map tidyR).filter fun r => !idle r).foldl (Sc.doRung p.names was) s = rs.foldl (Sc.doRung p.names was) s
  | [], _, _, _ => rfl
  | r :: rs, hrs, s, hb => by
    have hr := hrs r (by simp)
    have ih := fold_tidy p hck hw was rs (fun r hr => hrs r (by simp [hr])) _ (Sc.doRung_bd p hck was r hr s hb).1
    rw [List.map_cons, List.foldl_cons]
    cases hi : idle (tidyR r) with
    | true =>
      rw [List.filter_cons_of_neg (by simp [hi])]
      rw [doRung_idle p hck was s hb r hr (hw r hr) hi] at ih ⊢
      exact ih
    | false =>
      rw [List.filter_cons_of_pos (by simp [hi]), List.foldl_cons, doRung_tidy _ _ _ _ (hw r hr)]
      exact ih
/-- a scan of a program that is made tidy does the same -/
theorem step_tidy (p : Ld.Prg) (hck : Ld.check p = none) (hw : WfP p) (s : Sc.St) (hb : Sc.Bd p s) (inp : List Bool) : Sc.step (tidy p) s inp = Sc.step p s inp := by
  have hb0 : Sc.Bd p ⟨Sc.reads (Ld.kindL p.names 1) inp s.is, s.ct⟩ := by
    refine ⟨by simp only [Sc.reads_len]; exact hb.li, hb.lc, fun k hk => ?_⟩
    obtain ⟨h1, h2, h3⟩ := hb.at_ k hk
    refine ⟨h1, h2, fun h4 => ?_⟩
    simp only
    rw [Sc.reads_other _ _ _ _ (fun hm => by obtain ⟨hi, he⟩ := Ld.kindL_at _ _ _ hm; omega)]
    exact h3 h4
  exact fold_tidy p hck hw s.is p.rungs (fun _ h => h) _ hb0
theorem after_tidy (p : Ld.Prg) (hck : Ld.check p = none) (hw : WfP p) (ins : List (List Bool)) (hl : ∀ i, i ∈ ins → i.length = (Ld.kindL p.names 1).length) : Sc.after (tidy p) ins = Sc.after p ins := by
  have key : ∀ (ins : List (List Bool)) (s : Sc.St), Sc.Bd p s → (∀ i, i ∈ ins → i.length = (Ld.kindL p.names 1).length) → ins.foldl (Sc.step (tidy p)) s = ins.foldl (Sc.step p) s := by
    intro ins
    induction ins with
    | nil => intro s _ _; rfl
    | cons a r ih =>
      intro s hb hl
      rw [List.foldl_cons, List.foldl_cons, step_tidy p hck hw s hb a]
      exact ih _ (Sc.step_bd p hck s a hb (hl a (by simp))).1 (fun i hi => hl i (by simp [hi]))
  exact key ins _ (Sc.start_bd p hck) hl
theorem plays_tidy (p : Ld.Prg) (hck : Ld.check p = none) (hw : WfP p) (ins : List (List Bool)) (hl : ∀ i, i ∈ ins → i.length = (Ld.kindL p.names 1).length) (k : Nat) : Sc.plays (tidy p) ins k = Sc.plays p ins k := by
  unfold Sc.plays
  refine List.map_congr_left fun j _ => ?_
  exact after_tidy p hck hw _ (fun i hi => hl i (List.mem_of_mem_take hi))
end Sl
end
end Go.Proofs.YtgoabhclnicepaaGreatDoor
