/-
  Plain mathematics of chapter 1: what is made tidy is no greater; parts are gathered one by one; what is read has the form of an expression; a text tells its expression. Nothing of the program is named here.
-/
import Derived.Test.YtpidknogiiclfaaGreatDoorTdSame
import Derived.Test.YtpidknogiiclfaaGreatDoorRtParse
namespace Go.Proofs.YtpidknogiiclfaaGreatDoor
namespace Ex
theorem size_pos (x : Ex) : 1 ≤ x.size := by
  obtain ⟨k, n, l⟩ := x
  rw [size_def]; omega
theorem size_other (x : Ex) : (other x).size ≤ 1 + x.size := by
  unfold other
  by_cases h : x.kind = 5
  · rw [if_pos h]
    obtain ⟨k, n, l⟩ := x
    match l with
    | [] => simp
    | a :: r => simp only [List.headD_cons]; rw [size_def]; simp; omega
  · rw [if_neg h, size_def]; simp
theorem size_notT (t : Ex) : (notT t).size ≤ 1 + t.size := by
  unfold notT
  by_cases h0 : t.kind = 0
  · rw [if_pos h0, size_def]; simp
  · rw [if_neg h0]
    by_cases h1 : t.kind = 1
    · rw [if_pos h1, size_def]; simp
    · rw [if_neg h1]; exact size_other t
theorem nc_sum (L : List Ex) : ((nc L).map fun x => x.size).sum ≤ (L.map fun x => x.size).sum := by
  induction L with
  | nil => simp [nc]
  | cons a r ih =>
    unfold nc at *
    rw [List.filter_cons]
    split
    · simp only [List.map_cons, List.sum_cons]; omega
    · simp only [List.map_cons, List.sum_cons]; omega
theorem size_gather (k : Nat) (L : List Ex) : (gather k L).size ≤ 1 + (L.map fun x => x.size).sum := by
  by_cases hd : dec k L
  · rw [gather_dec k L hd, size_def]; simp
  · rw [gather_not k L hd]
    have h1 := addAll_sum (nc L) []
    have h2 := nc_sum L
    simp only [List.map_nil, List.sum_nil, Nat.zero_add] at h1
    generalize addAll [] (nc L) = U at *
    match U, h1 with
    | [], _ => show size ⟨_, _, _⟩ ≤ _; rw [size_def]; simp
    | [p], h1 => simp only [List.map_cons, List.map_nil, List.sum_cons, List.sum_nil] at h1; show p.size ≤ _; omega
    | a :: b :: r, h1 => show size ⟨k, [], a :: b :: r⟩ ≤ _; rw [size_def]; omega
theorem pieces_sum (k : Nat) (t : Ex) : ((pieces k t).map fun x => x.size).sum ≤ t.size := by
  unfold pieces
  split
  · obtain ⟨j, n, l⟩ := t
    show (l.map fun x => x.size).sum ≤ _
    rw [size_def]; omega
  · simp
theorem flat_sum (k : Nat) (l : List Ex) (h : ∀ y, y ∈ l → y.tidy.size ≤ y.size) : ((l.map fun x => pieces k x.tidy).flatten.map fun x => x.size).sum ≤ (l.map fun x => x.size).sum := by
  induction l with
  | nil => simp
  | cons a r ih =>
    have h1 := ih fun y hy => h y (by simp [hy])
    have h2 := pieces_sum k a.tidy
    have h3 := h a (by simp)
    simp only [List.map_cons, List.flatten_cons, List.map_append, List.sum_append, List.sum_cons]
    omega
/-- what is made tidy is no greater -/
theorem size_tidy (x : Ex) : Wf x → x.tidy.size ≤ x.size := by
  induction x using Ex.ind with
  | h k nm l ih =>
    intro h
    rw [Wf.def] at h
    obtain ⟨hs, hl⟩ := h
    have hf := fun k => flat_sum k l fun y hy => ih y hy (hl y hy)
    rcases hs with ⟨h1, h2, h3⟩ | ⟨h1, h2, h3, h4⟩ | ⟨rfl, rfl, h3⟩ | ⟨h1, h2, rfl, h4⟩
    · rw [tidy_leaf k (by omega)]; exact Nat.le_refl _
    · rw [tidy_leaf k h2]; exact Nat.le_refl _
    · match l, h3, ih, hl with
      | [y], _, ih, hl =>
        have h1 := ih y (by simp) (hl y (by simp))
        have h2 := size_notT y.tidy
        rw [tidy5, size_def]
        simp
        omega
    · by_cases h6 : k = 6
      · subst h6
        have := size_gather 6 (l.map fun x => pieces 6 x.tidy).flatten
        have := hf 6
        rw [tidy6, size_def]
        omega
      · have h7 : k = 7 := by omega
        subst h7
        have := size_gather 7 (l.map fun x => pieces 7 x.tidy).flatten
        have := hf 7
        rw [tidy7, size_def]
        omega
/-! the program's own way: lists of the same kind within are gone through right here -/
def sq (k : Nat) : Ex → List Ex
  | ⟨j, n, l⟩ => if j = k then (l.map fun x => sq k x).flatten else pieces k (tidy ⟨j, n, l⟩)
theorem sq_in (k : Nat) (n : List UInt8) (l : List Ex) : sq k ⟨k, n, l⟩ = (l.map fun x => sq k x).flatten := by simp [sq]
theorem sq_out (k : Nat) (x : Ex) (h : x.kind ≠ k) : sq k x = pieces k x.tidy := by
  obtain ⟨j, n, l⟩ := x
  rw [sq]
  exact if_neg h
theorem gather_list (k : Nat) (f g : Ex → List Ex) (l : List Ex) (h : ∀ y, y ∈ l → ∀ A B, gather k (A ++ f y ++ B) = gather k (A ++ g y ++ B)) : ∀ A B, gather k (A ++ (l.map f).flatten ++ B) = gather k (A ++ (l.map g).flatten ++ B) := by
  induction l with
  | nil => intro A B; rfl
  | cons a r ih =>
    intro A B
    simp only [List.map_cons, List.flatten_cons]
    have h1 := h a (by simp) A ((r.map f).flatten ++ B)
    have h2 := ih (fun y hy => h y (by simp [hy])) (A ++ g a) B
    simp only [List.append_assoc] at *
    rw [h1, h2]
theorem gather_sq (k : Nat) (h6 : 6 ≤ k) (h7 : k ≤ 7) (x : Ex) : Wf x → ∀ A B, gather k (A ++ sq k x ++ B) = gather k (A ++ pieces k x.tidy ++ B) := by
  induction x using Ex.ind with
  | h j nm l ih =>
    intro h A B
    by_cases hj : j = k
    · subst hj
      rw [Wf.def] at h
      have hl := h.2
      have ht : tidy ⟨j, nm, l⟩ = gather j (l.map fun x => pieces j x.tidy).flatten := by
        by_cases h6' : j = 6
        · subst h6'; exact tidy6 nm l
        · have h7' : j = 7 := by omega
          subst h7'; exact tidy7 nm l
      rw [sq_in, ht, gather_in j h6 A _ B fun y hy => (td_flat j l (fun y hy => td_tidy y (hl y hy)) y hy).2]
      exact gather_list j _ _ l (fun y hy A B => ih y hy (hl y hy) A B) A B
    · rw [sq_out k _ hj]
theorem tidy_sq (k : Nat) (h6 : 6 ≤ k) (h7 : k ≤ 7) (nm : List UInt8) (l : List Ex) (h : Wf ⟨k, nm, l⟩) : tidy ⟨k, nm, l⟩ = gather k (l.map fun x => sq k x).flatten := by
  have hl := ((Wf.def _ _ _).1 h).2
  have ht : tidy ⟨k, nm, l⟩ = gather k (l.map fun x => pieces k x.tidy).flatten := by
    by_cases h6' : k = 6
    · subst h6'; exact tidy6 nm l
    · have h7' : k = 7 := by omega
      subst h7'; exact tidy7 nm l
  rw [ht]
  have := gather_list k (sq k) (fun x => pieces k x.tidy) l (fun y hy A B => gather_sq k h6 h7 y (hl y hy) A B) [] []
  simpa using this.symm
/-! one by one -/
theorem other_other {x : Ex} (h : Td x) (h2 : 2 ≤ x.kind) : other (other x) = x := by
  by_cases h5 : x.kind = 5
  · obtain ⟨y, rfl, _, _, h5'⟩ := h.not h5
    show other y = _
    unfold other
    rw [if_neg h5']
  · unfold other
    rw [if_neg h5]
    rfl
theorem other_ne {x : Ex} (h : Td x) : other x ≠ x := by
  intro e
  by_cases h5 : x.kind = 5
  · obtain ⟨y, rfl, _, _, h5'⟩ := h.not h5
    exact h5' (by rw [show y = (⟨5, [], [y]⟩ : Ex) from e])
  · unfold other at e
    rw [if_neg h5] at e
    exact h5 (by rw [← e])
theorem dec_step (k : Nat) (L : List Ex) (x : Ex) (hL : ∀ y, y ∈ L → Td y) (hx : Td x) : dec k (L ++ [x]) ↔ dec k L ∨ x.kind = allK k ∨ (2 ≤ x.kind ∧ other x ∈ nc L) := by
  constructor
  · rintro (⟨y, hy, e⟩ | ⟨y, hy, ho⟩)
    · simp only [List.mem_append, List.mem_singleton] at hy
      rcases hy with hy | hy
      · exact .inl (.inl ⟨y, hy, e⟩)
      · subst hy; exact .inr (.inl e)
    · rw [nc_append, List.mem_append] at hy ho
      rcases hy with hy | hy
      · rcases ho with ho | ho
        · exact .inl (.inr ⟨y, hy, ho⟩)
        · have h1 := (mem_nc _ _).1 ho
          have e := List.mem_singleton.1 h1.1
          refine .inr (.inr ⟨by rw [← e]; exact h1.2, ?_⟩)
          rw [← e, other_other (hL y ((mem_nc _ _).1 hy).1) ((mem_nc _ _).1 hy).2]
          exact hy
      · have h1 := (mem_nc _ _).1 hy
        have e := List.mem_singleton.1 h1.1
        subst e
        rcases ho with ho | ho
        · exact .inr (.inr ⟨h1.2, ho⟩)
        · exact absurd (List.mem_singleton.1 ((mem_nc _ _).1 ho).1) (other_ne hx)
  · rintro (h | h | ⟨h, ho⟩)
    · have := dec_mono k [] L [x] h
      simpa using this
    · exact .inl ⟨x, by simp, h⟩
    · refine .inr ⟨x, (mem_nc _ _).2 ⟨by simp, h⟩, ?_⟩
      rw [nc_append, List.mem_append]
      exact .inl ho
/-! what is read has the form of an expression -/
theorem FitP.wf : ∀ (D : Nat) (x : Ex), FitP D x → Wf x := by
  intro D
  induction D with
  | zero => intro x h; exact absurd h (by simp [FitP])
  | succ D ih =>
    have hq : ∀ y, FitQ (FitP D) y → Wf y := by
      intro y h
      rcases h with ⟨h1, h2, h3, h4⟩ | ⟨_, h2⟩
      · obtain ⟨k, nm, l⟩ := y
        simp only at h1 h2 h3 h4
        rw [Wf.def]
        exact ⟨.inr (.inr (.inr ⟨by omega, by omega, h2, h3⟩)), fun z hz => ih z (h4 z hz)⟩
      · exact ih y h2
    intro x h
    obtain ⟨k, nm, l⟩ := x
    simp only [FitP] at h
    rw [Wf.def]
    rcases h with ⟨h1, h2, h3⟩ | ⟨h1, h2, h3, h4⟩ | ⟨h1, h2, y, h3, h4⟩ | ⟨h1, h2, h3, h4⟩ | ⟨h1, h2, h3, h4⟩
    · subst h3; exact ⟨.inl ⟨h1, h2, rfl⟩, by simp⟩
    · subst h4; exact ⟨.inr (.inl ⟨h1, h2, h3, rfl⟩), by simp⟩
    · subst h3; exact ⟨.inr (.inr (.inl ⟨h1, h2, rfl⟩)), fun z hz => by simp only [List.mem_singleton] at hz; subst hz; exact ih _ h4⟩
    · exact ⟨.inr (.inr (.inr ⟨by omega, by omega, h2, h3⟩)), fun z hz => ih z (h4 z hz)⟩
    · exact ⟨.inr (.inr (.inr ⟨by omega, by omega, h2, h3⟩)), fun z hz => hq z (h4 z hz)⟩
theorem parse_wf (l : List UInt8) (x : Ex) (h : parse l = .inr x) : Wf x := FitP.wf 21 x (FitW.piece 20 x (parse_fit l x h))
theorem FitP.monos (x : Ex) (D : Nat) : ∀ E, D ≤ E → FitP D x → FitP E x := by
  intro E hE h
  induction hE with
  | refl => exact h
  | step _ ih => exact FitP.mono _ x ih
theorem size_mem (l : List Ex) (y : Ex) (h : y ∈ l) : y.size ≤ (l.map fun x => x.size).sum := by
  induction l with
  | nil => simp at h
  | cons a r ih =>
    simp only [List.map_cons, List.sum_cons]
    rcases List.mem_cons.1 h with rfl | h
    · omega
    · have := ih h; omega
theorem Wf.fit (x : Ex) : Wf x → FitP x.size x := by
  induction x using Ex.ind with
  | h k nm l ih =>
    intro h
    rw [Wf.def] at h
    obtain ⟨hs, hl⟩ := h
    rw [size_def, Nat.add_comm]
    have hp : ∀ y, y ∈ l → FitP (l.map fun x => x.size).sum y := fun y hy => FitP.monos y _ _ (size_mem l y hy) (ih y hy (hl y hy))
    simp only [FitP]
    rcases hs with ⟨h1, h2, h3⟩ | ⟨h1, h2, h3, h4⟩ | ⟨h1, h2, h3⟩ | ⟨h1, h2, h3, h4⟩
    · exact .inl ⟨h1, h2, List.length_eq_zero_iff.1 h3⟩
    · exact .inr (.inl ⟨h1, h2, h3, List.length_eq_zero_iff.1 h4⟩)
    · match l, h3, hp with
      | [y], _, hp => exact .inr (.inr (.inl ⟨h1, h2, y, rfl, hp y (by simp)⟩))
    · by_cases h6 : k = 6
      · exact .inr (.inr (.inr (.inl ⟨h6, h3, h4, hp⟩)))
      · exact .inr (.inr (.inr (.inr ⟨by omega, h3, h4, fun y hy => FitP.part _ y (hp y hy)⟩)))
theorem Td.wf (x : Ex) : Td x → Wf x := by
  induction x using Ex.ind with
  | h k nm l ih =>
    intro h
    rw [Td.def] at h
    rw [Wf.def]
    exact ⟨h.1, fun y hy => ih y hy (h.2.2.2 y hy)⟩
/-- a text tells its expression -/
theorem text_read (x : Ex) (D : Nat) (h : FitP D x) : ∃ m, wholeP x.text (pieceP x.text D) 0 = .inr (x, m) := by
  have hW := whole_back x.text D (piece_back x.text D) x (FitQ.whole D x (FitP.part D x h))
  obtain ⟨c, r, hc, hc32⟩ := hW.2
  have hsk : skip x.text 0 = ([] : List UInt8).length := by rw [hc]; exact skip_cons c r hc32
  obtain ⟨m, hm, _, _⟩ := hW.1 [] [] 0 (by simp) ⟨by simp [Stop, sg, ends], by simp [nxt, sg, skip], by simp [nxt, sg, skip]⟩ (Nat.zero_le _) hsk
  exact ⟨m, hm⟩
theorem text_inj (x y : Ex) (hx : Wf x) (hy : Wf y) (h : x.text = y.text) : x = y := by
  have h1 := FitP.monos x _ (x.size + y.size) (by omega) (Wf.fit x hx)
  have h2 := FitP.monos y _ (x.size + y.size) (by omega) (Wf.fit y hy)
  obtain ⟨m, e1⟩ := text_read x _ h1
  obtain ⟨n, e2⟩ := text_read y _ h2
  rw [h] at e1
  rw [e1] at e2
  simp only [Sum.inr.injEq, Prod.mk.injEq] at e2
  exact e2.1
end Ex
end Go.Proofs.YtpidknogiiclfaaGreatDoor
