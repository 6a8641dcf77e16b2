/-
  Plain mathematics of chapter 1: what is made tidy is no greater; parts are gathered one by one; what is read has the form of an expression; a text tells its expression. Nothing of the program is named here. Plain mathematics of the program's numbering: a sign ahead of parts that are told by their numbers; in a table without doubles two expressions have one number just if they are one. Nothing of the program is named here. Plain mathematics: parts of a list gathered one by one; how many texts are numbered on the way. Nothing of the program is named here. Plain mathematics of chapter 3: programs on their way. Nothing of the program is named here.
-/
import Derived.Test.YtjfgfcajmkbmeaaGreatDoorTdSame
import Derived.Test.YtjfgfcajmkbmeaaGreatDoorRtParse
import Derived.Lib.ItoaNum
import Derived.Test.YtjfgfcajmkbmeaaGreatDoorLdRepAll
namespace Go.Proofs.YtjfgfcajmkbmeaaGreatDoor
section
namespace Ex
theorem size_pos (x : Ex) : 1 ≤ x.size := by
  obtain ⟨k, n, l⟩ := x
  rw [size_def]; omega
theorem size_other (x : Ex) : (other x).size ≤ 1 + x.size := by
  unfold other
  by_cases h : x.kind = 5
  · rw [if_pos h]
    obtain ⟨k, n, l⟩ := x
    match l with
    | [] => simp
    | a :: r => simp only [List.headD_cons]; rw [size_def]; simp; omega
  · rw [if_neg h, size_def]; simp
theorem size_notT (t : Ex) : (notT t).size ≤ 1 + t.size := by
  unfold notT
  by_cases h0 : t.kind = 0
  · rw [if_pos h0, size_def]; simp
  · rw [if_neg h0]
    by_cases h1 : t.kind = 1
    · rw [if_pos h1, size_def]; simp
    · rw [if_neg h1]; exact size_other t
theorem nc_sum (L : List Ex) : ((nc L).map fun x => x.size).sum ≤ (L.map fun x => x.size).sum := by
  induction L with
  | nil => simp [nc]
  | cons a r ih =>
    unfold nc at *
    rw [List.filter_cons]
    split
    · simp only [List.map_cons, List.sum_cons]; omega
    · simp only [List.map_cons, List.sum_cons]; omega
theorem size_gather (k : Nat) (L : List Ex) : (gather k L).size ≤ 1 + (L.map fun x => x.size).sum := by
  by_cases hd : dec k L
  · rw [gather_dec k L hd, size_def]; simp
  · rw [gather_not k L hd]
    have h1 := addAll_sum (nc L) []
    have h2 := nc_sum L
    simp only [List.map_nil, List.sum_nil, Nat.zero_add] at h1
    generalize addAll [] (nc L) = U at *
    match U, h1 with
    | [], _ => show size ⟨_, _, _⟩ ≤ _; rw [size_def]; simp
    | [p], h1 => simp only [List.map_cons, List.map_nil, List.sum_cons, List.sum_nil] at h1; show p.size ≤ _; omega
    | a :: b :: r, h1 => show size ⟨k, [], a :: b :: r⟩ ≤ _; rw [size_def]; omega
theorem pieces_sum (k : Nat) (t : Ex) : ((pieces k t).map fun x => x.size).sum ≤ t.size := by
  unfold pieces
  split
  · obtain ⟨j, n, l⟩ := t
    show (l.map fun x => x.size).sum ≤ _
    rw [size_def]; omega
  · simp
theorem flat_sum (k : Nat) (l : List Ex) (h : ∀ y, y ∈ l → y.tidy.size ≤ y.size) : ((l.map fun x => pieces k x.tidy).flatten.map fun x => x.size).sum ≤ (l.map fun x => x.size).sum := by
  induction l with
  | nil => simp
  | cons a r ih =>
    have h1 := ih fun y hy => h y (by simp [hy])
    have h2 := pieces_sum k a.tidy
    have h3 := h a (by simp)
    simp only [List.map_cons, List.flatten_cons, List.map_append, List.sum_append, List.sum_cons]
    omega
/-- what is made tidy is no greater -/
theorem size_tidy (x : Ex) : Wf x → x.tidy.size ≤ x.size := by
  induction x using Ex.ind with
  | h k nm l ih =>
    intro h
    rw [Wf.def] at h
    obtain ⟨hs, hl⟩ := h
    have hf := fun k => flat_sum k l fun y hy => ih y hy (hl y hy)
    rcases hs with ⟨h1, h2, h3⟩ | ⟨h1, h2, h3, h4⟩ | ⟨rfl, rfl, h3⟩ | ⟨h1, h2, rfl, h4⟩
    · rw [tidy_leaf k (by omega)]; exact Nat.le_refl _
    · rw [tidy_leaf k h2]; exact Nat.le_refl _
    · match l, h3, ih, hl with
      | [y], _, ih, hl =>
        have h1 := ih y (by simp) (hl y (by simp))
        have h2 := size_notT y.tidy
        rw [tidy5, size_def]
        simp
        omega
    · by_cases h6 : k = 6
      · subst h6
        have := size_gather 6 (l.map fun x => pieces 6 x.tidy).flatten
        have := hf 6
        rw [tidy6, size_def]
        omega
      · have h7 : k = 7 := by omega
        subst h7
        have := size_gather 7 (l.map fun x => pieces 7 x.tidy).flatten
        have := hf 7
        rw [tidy7, size_def]
        omega
/-! the program's own way: lists of the same kind within are gone through right here -/
def sq (k : Nat) : Ex → List Ex
  | ⟨j, n, l⟩ => if j = k then (l.map fun x => sq k x).flatten else pieces k (tidy ⟨j, n, l⟩)
theorem sq_in (k : Nat) (n : List UInt8) (l : List Ex) : sq k ⟨k, n, l⟩ = (l.map fun x => sq k x).flatten := by simp [sq]
theorem sq_out (k : Nat) (x : Ex) (h : x.kind ≠ k) : sq k x = pieces k x.tidy := by
  obtain ⟨j, n, l⟩ := x
  rw [sq]
  exact if_neg h
theorem gather_list (k : Nat) (f g : Ex → List Ex) (l : List Ex) (h : ∀ y, y ∈ l → ∀ A B, gather k (A ++ f y ++ B) = gather k (A ++ g y ++ B)) : ∀ A B, gather k (A ++ (l.map f).flatten ++ B) = gather k (A ++ (l.map g).flatten ++ B) := by
  induction l with
  | nil => intro A B; rfl
  | cons a r ih =>
    intro A B
    simp only [List.map_cons, List.flatten_cons]
    have h1 := h a (by simp) A ((r.map f).flatten ++ B)
    have h2 := ih (fun y hy => h y (by simp [hy])) (A ++ g a) B
    simp only [List.append_assoc] at *
    rw [h1, h2]
theorem gather_sq (k : Nat) (h6 : 6 ≤ k) (h7 : k ≤ 7) (x : Ex) : Wf x → ∀ A B, gather k (A ++ sq k x ++ B) = gather k (A ++ pieces k x.tidy ++ B) := by
  induction x using Ex.ind with
  | h j nm l ih =>
    intro h A B
    by_cases hj : j = k
    · subst hj
      rw [Wf.def] at h
      have hl := h.2
      have ht : tidy ⟨j, nm, l⟩ = gather j (l.map fun x => pieces j x.tidy).flatten := by
        by_cases h6' : j = 6
        · subst h6'; exact tidy6 nm l
        · have h7' : j = 7 := by omega
          subst h7'; exact tidy7 nm l
      rw [sq_in, ht, gather_in j h6 A _ B fun y hy => (td_flat j l (fun y hy => td_tidy y (hl y hy)) y hy).2]
      exact gather_list j _ _ l (fun y hy A B => ih y hy (hl y hy) A B) A B
    · rw [sq_out k _ hj]
theorem tidy_sq (k : Nat) (h6 : 6 ≤ k) (h7 : k ≤ 7) (nm : List UInt8) (l : List Ex) (h : Wf ⟨k, nm, l⟩) : tidy ⟨k, nm, l⟩ = gather k (l.map fun x => sq k x).flatten := by
  have hl := ((Wf.def _ _ _).1 h).2
  have ht : tidy ⟨k, nm, l⟩ = gather k (l.map fun x => pieces k x.tidy).flatten := by
    by_cases h6' : k = 6
    · subst h6'; exact tidy6 nm l
    · have h7' : k = 7 := by omega
      subst h7'; exact tidy7 nm l
  rw [ht]
  have := gather_list k (sq k) (fun x => pieces k x.tidy) l (fun y hy A B => gather_sq k h6 h7 y (hl y hy) A B) [] []
  simpa using this.symm
/-! one by one -/
theorem other_other {x : Ex} (h : Td x) (h2 : 2 ≤ x.kind) : other (other x) = x := by
  by_cases h5 : x.kind = 5
  · obtain ⟨y, rfl, _, _, h5'⟩ := h.not h5
    show other y = _
    unfold other
    rw [if_neg h5']
  · unfold other
    rw [if_neg h5]
    rfl
theorem other_ne {x : Ex} (h : Td x) : other x ≠ x := by
  intro e
  by_cases h5 : x.kind = 5
  · obtain ⟨y, rfl, _, _, h5'⟩ := h.not h5
    exact h5' (by rw [show y = (⟨5, [], [y]⟩ : Ex) from e])
  · unfold other at e
    rw [if_neg h5] at e
    exact h5 (by rw [← e])
theorem dec_step (k : Nat) (L : List Ex) (x : Ex) (hL : ∀ y, y ∈ L → Td y) (hx : Td x) : dec k (L ++ [x]) ↔ dec k L ∨ x.kind = allK k ∨ (2 ≤ x.kind ∧ other x ∈ nc L) := by
  constructor
  · rintro (⟨y, hy, e⟩ | ⟨y, hy, ho⟩)
    · simp only [List.mem_append, List.mem_singleton] at hy
      rcases hy with hy | hy
      · exact .inl (.inl ⟨y, hy, e⟩)
      · subst hy; exact .inr (.inl e)
    · rw [nc_append, List.mem_append] at hy ho
      rcases hy with hy | hy
      · rcases ho with ho | ho
        · exact .inl (.inr ⟨y, hy, ho⟩)
        · have h1 := (mem_nc _ _).1 ho
          have e := List.mem_singleton.1 h1.1
          refine .inr (.inr ⟨by rw [← e]; exact h1.2, ?_⟩)
          rw [← e, other_other (hL y ((mem_nc _ _).1 hy).1) ((mem_nc _ _).1 hy).2]
          exact hy
      · have h1 := (mem_nc _ _).1 hy
        have e := List.mem_singleton.1 h1.1
        subst e
        rcases ho with ho | ho
        · exact .inr (.inr ⟨h1.2, ho⟩)
        · exact absurd (List.mem_singleton.1 ((mem_nc _ _).1 ho).1) (other_ne hx)
  · rintro (h | h | ⟨h, ho⟩)
    · have := dec_mono k [] L [x] h
      simpa using this
    · exact .inl ⟨x, by simp, h⟩
    · refine .inr ⟨x, (mem_nc _ _).2 ⟨by simp, h⟩, ?_⟩
      rw [nc_append, List.mem_append]
      exact .inl ho
/-! what is read has the form of an expression -/
theorem FitP.wf : ∀ (D : Nat) (x : Ex), FitP D x → Wf x := by
  intro D
  induction D with
  | zero => intro x h; exact absurd h (by simp [FitP])
  | succ D ih =>
    have hq : ∀ y, FitQ (FitP D) y → Wf y := by
      intro y h
      rcases h with ⟨h1, h2, h3, h4⟩ | ⟨_, h2⟩
      · obtain ⟨k, nm, l⟩ := y
        simp only at h1 h2 h3 h4
        rw [Wf.def]
        exact ⟨.inr (.inr (.inr ⟨by omega, by omega, h2, h3⟩)), fun z hz => ih z (h4 z hz)⟩
      · exact ih y h2
    intro x h
    obtain ⟨k, nm, l⟩ := x
    simp only [FitP] at h
    rw [Wf.def]
    rcases h with ⟨h1, h2, h3⟩ | ⟨h1, h2, h3, h4⟩ | ⟨h1, h2, y, h3, h4⟩ | ⟨h1, h2, h3, h4⟩ | ⟨h1, h2, h3, h4⟩
    · subst h3; exact ⟨.inl ⟨h1, h2, rfl⟩, by simp⟩
    · subst h4; exact ⟨.inr (.inl ⟨h1, h2, h3, rfl⟩), by simp⟩
    · subst h3; exact ⟨.inr (.inr (.inl ⟨h1, h2, rfl⟩)), fun z hz => by simp only [List.mem_singleton] at hz; subst hz; exact ih _ h4⟩
    · exact ⟨.inr (.inr (.inr ⟨by omega, by omega, h2, h3⟩)), fun z hz => ih z (h4 z hz)⟩
    · exact ⟨.inr (.inr (.inr ⟨by omega, by omega, h2, h3⟩)), fun z hz => hq z (h4 z hz)⟩
theorem parse_wf (l : List UInt8) (x : Ex) (h : parse l = .inr x) : Wf x := FitP.wf 21 x (FitW.piece 20 x (parse_fit l x h))
theorem FitP.monos (x : Ex) (D : Nat) : ∀ E, D ≤ E → FitP D x → FitP E x := by
  intro E hE h
  induction hE with
  | refl => exact h
  | step _ ih => exact FitP.mono _ x ih
theorem size_mem (l : List Ex) (y : Ex) (h : y ∈ l) : y.size ≤ (l.map fun x => x.size).sum := by
  induction l with
  | nil => simp at h
  | cons a r ih =>
    simp only [List.map_cons, List.sum_cons]
    rcases List.mem_cons.1 h with rfl | h
    · omega
    · have := ih h; omega
theorem Wf.fit (x : Ex) : Wf x → FitP x.size x := by
  induction x using Ex.ind with
  | h k nm l ih =>
    intro h
    rw [Wf.def] at h
    obtain ⟨hs, hl⟩ := h
    rw [size_def, Nat.add_comm]
    have hp : ∀ y, y ∈ l → FitP (l.map fun x => x.size).sum y := fun y hy => FitP.monos y _ _ (size_mem l y hy) (ih y hy (hl y hy))
    simp only [FitP]
    rcases hs with ⟨h1, h2, h3⟩ | ⟨h1, h2, h3, h4⟩ | ⟨h1, h2, h3⟩ | ⟨h1, h2, h3, h4⟩
    · exact .inl ⟨h1, h2, List.length_eq_zero_iff.1 h3⟩
    · exact .inr (.inl ⟨h1, h2, h3, List.length_eq_zero_iff.1 h4⟩)
    · match l, h3, hp with
      | [y], _, hp => exact .inr (.inr (.inl ⟨h1, h2, y, rfl, hp y (by simp)⟩))
    · by_cases h6 : k = 6
      · exact .inr (.inr (.inr (.inl ⟨h6, h3, h4, hp⟩)))
      · exact .inr (.inr (.inr (.inr ⟨by omega, h3, h4, fun y hy => FitP.part _ y (hp y hy)⟩)))
theorem Td.wf (x : Ex) : Td x → Wf x := by
  induction x using Ex.ind with
  | h k nm l ih =>
    intro h
    rw [Td.def] at h
    rw [Wf.def]
    exact ⟨h.1, fun y hy => ih y hy (h.2.2.2 y hy)⟩
/-- a text tells its expression -/
theorem text_read (x : Ex) (D : Nat) (h : FitP D x) : ∃ m, wholeP x.text (pieceP x.text D) 0 = .inr (x, m) := by
  have hW := whole_back x.text D (piece_back x.text D) x (FitQ.whole D x (FitP.part D x h))
  obtain ⟨c, r, hc, hc32⟩ := hW.2
  have hsk : skip x.text 0 = ([] : List UInt8).length := by rw [hc]; exact skip_cons c r hc32
  obtain ⟨m, hm, _, _⟩ := hW.1 [] [] 0 (by simp) ⟨by simp [Stop, sg, ends], by simp [nxt, sg, skip], by simp [nxt, sg, skip]⟩ (Nat.zero_le _) hsk
  exact ⟨m, hm⟩
theorem text_inj (x y : Ex) (hx : Wf x) (hy : Wf y) (h : x.text = y.text) : x = y := by
  have h1 := FitP.monos x _ (x.size + y.size) (by omega) (Wf.fit x hx)
  have h2 := FitP.monos y _ (x.size + y.size) (by omega) (Wf.fit y hy)
  obtain ⟨m, e1⟩ := text_read x _ h1
  obtain ⟨n, e2⟩ := text_read y _ h2
  rw [h] at e1
  rw [e1] at e2
  simp only [Sum.inr.injEq, Prod.mk.injEq] at e2
  exact e2.1
end Ex
end
section
open Go.Lib (decDigits)
/-- the number that digits tell -/
def dval (l : List UInt8) : Nat := l.foldl (fun a c => a * 10 + (c.toNat - 48)) 0
theorem dval_snoc (l : List UInt8) (c : UInt8) : dval (l ++ [c]) = dval l * 10 + (c.toNat - 48) := by simp [dval]
theorem digit_nat (u : Nat) (h : u < 10) : (UInt8.ofNat (48 + u)).toNat = 48 + u := by simp; omega
theorem dec_digits (u : Nat) : (∀ c, c ∈ decDigits u → 48 ≤ c.toNat ∧ c.toNat ≤ 57) ∧ decDigits u ≠ [] ∧ dval (decDigits u) = u := by
  induction u using Nat.strongRecOn with
  | ind u ih =>
    by_cases h : u < 10
    · rw [decDigits, dif_pos h]
      have := digit_nat u h
      refine ⟨fun c hc => ?_, by simp, ?_⟩
      · simp only [List.mem_singleton] at hc; subst hc; omega
      · have e := dval_snoc [] (UInt8.ofNat (48 + u))
        simp only [List.nil_append] at e
        rw [e, this]
        simp [dval]
    · rw [decDigits, dif_neg h]
      obtain ⟨h1, _, h3⟩ := ih (u / 10) (by omega)
      have := digit_nat (u % 10) (by omega)
      refine ⟨fun c hc => ?_, by simp, ?_⟩
      · rcases List.mem_append.1 hc with hc | hc
        · exact h1 c hc
        · simp only [List.mem_singleton] at hc; subst hc; omega
      · rw [dval_snoc, h3, this]
        omega
theorem dec_inj (a b : Nat) (h : decDigits a = decDigits b) : a = b := by
  rw [← (dec_digits a).2.2, ← (dec_digits b).2.2, h]
/-- digits, and then what is none -/
theorem digits_split : ∀ (a b r t : List UInt8), (∀ c, c ∈ a → 48 ≤ c.toNat ∧ c.toNat ≤ 57) → (∀ c, c ∈ b → 48 ≤ c.toNat ∧ c.toNat ≤ 57) → (∀ c, r.head? = some c → ¬ (48 ≤ c.toNat ∧ c.toNat ≤ 57)) → (∀ c, t.head? = some c → ¬ (48 ≤ c.toNat ∧ c.toNat ≤ 57)) → a ++ r = b ++ t → a = b ∧ r = t := by
  intro a
  induction a with
  | nil =>
    intro b r t _ hb hr _ h
    match b, hb with
    | [], _ => exact ⟨rfl, by simpa using h⟩
    | c :: s, hb =>
      exfalso
      simp only [List.nil_append, List.cons_append] at h
      exact hr c (by rw [h]; rfl) (hb c (by simp))
  | cons c s ih =>
    intro b r t ha hb hr ht h
    match b, hb with
    | [], _ =>
      exfalso
      simp only [List.nil_append, List.cons_append] at h
      exact ht c (by rw [← h]; rfl) (ha c (by simp))
    | d :: u, hb =>
      simp only [List.cons_append, List.cons.injEq] at h
      obtain ⟨rfl, h⟩ := h
      obtain ⟨e1, e2⟩ := ih u r t (fun x hx => ha x (by simp [hx])) (fun x hx => hb x (by simp [hx])) hr ht h
      exact ⟨by rw [e1], e2⟩
/-- a sign ahead of each number -/
def cat (s : UInt8) (ns : List Nat) : List UInt8 := (ns.map fun i => s :: decDigits i).flatten
theorem cat_cons (s : UInt8) (a : Nat) (r : List Nat) : cat s (a :: r) = s :: (decDigits a ++ cat s r) := by simp [cat]
theorem cat_head (s : UInt8) (ns : List Nat) : ∀ c, (cat s ns).head? = some c → c = s := by
  intro c h
  match ns with
  | [] => simp [cat] at h
  | a :: r => rw [cat_cons] at h; simpa using h.symm
theorem cat_inj (s : UInt8) (hs : ¬ (48 ≤ s.toNat ∧ s.toNat ≤ 57)) : ∀ ns ms : List Nat, cat s ns = cat s ms → ns = ms := by
  intro ns
  induction ns with
  | nil =>
    intro ms h
    match ms with
    | [] => rfl
    | b :: t => rw [cat_cons] at h; simp [cat] at h
  | cons a r ih =>
    intro ms h
    match ms with
    | [] => rw [cat_cons] at h; simp [cat] at h
    | b :: t =>
      rw [cat_cons, cat_cons] at h
      simp only [List.cons.injEq, true_and] at h
      obtain ⟨e1, e2⟩ := digits_split _ _ _ _ (dec_digits a).1 (dec_digits b).1 (fun c hc => by rw [cat_head s r c hc]; exact hs) (fun c hc => by rw [cat_head s t c hc]; exact hs) h
      rw [dec_inj a b e1, ih t e2]
namespace Ex
def sign (k : Nat) : UInt8 := if k = 5 then 33 else if k = 6 then 38 else 124
/-- by what an expression is told in the table -/
def code (k : Nat) (nm : List UInt8) (ns : List Nat) : List UInt8 := if k ≤ 4 then text ⟨k, nm, []⟩ else cat (sign k) ns
def Num (tb : List (List UInt8)) : Ex → Nat → Prop
  | ⟨k, nm, l⟩ => fun n => ∃ ns : List Nat, ns.length = l.length ∧ (∀ (i : Nat) (P : Nat → Prop) (m : Nat), (l.map fun y => Num tb y)[i]? = some P → ns[i]? = some m → P m) ∧ tb[n]? = some (code k nm ns)
theorem Num.def (tb : List (List UInt8)) (k : Nat) (nm : List UInt8) (l : List Ex) (n : Nat) : Num tb ⟨k, nm, l⟩ n ↔ ∃ ns : List Nat, ns.length = l.length ∧ (∀ (i : Nat) (y : Ex) (m : Nat), l[i]? = some y → ns[i]? = some m → Num tb y m) ∧ tb[n]? = some (code k nm ns) := by
  simp only [Num]
  constructor
  · rintro ⟨ns, h1, h2, h3⟩
    exact ⟨ns, h1, fun i y m hy hm => h2 i _ m (by rw [List.getElem?_map, hy]; rfl) hm, h3⟩
  · rintro ⟨ns, h1, h2, h3⟩
    refine ⟨ns, h1, fun i P m hP hm => ?_, h3⟩
    rw [List.getElem?_map] at hP
    cases hl : l[i]? with
    | none => rw [hl] at hP; simp at hP
    | some y =>
      rw [hl] at hP
      simp only [Option.map_some, Option.some.injEq] at hP
      rw [← hP]
      exact h2 i y m hl hm
theorem Num.mono (tb more : List (List UInt8)) (x : Ex) : ∀ n, Num tb x n → Num (tb ++ more) x n := by
  induction x using Ex.ind with
  | h k nm l ih =>
    intro n h
    rw [Num.def] at h ⊢
    obtain ⟨ns, h1, h2, h3⟩ := h
    refine ⟨ns, h1, fun i y m hy hm => ih y (List.mem_of_getElem? hy) m (h2 i y m hy hm), ?_⟩
    have hl : n < tb.length := by
      by_cases h : n < tb.length
      · exact h
      · rw [List.getElem?_eq_none (by omega)] at h3; simp at h3
    rw [List.getElem?_append_left hl]
    exact h3
theorem nodup_index (tb : List (List UInt8)) (h : tb.Nodup) (i j : Nat) (c : List UInt8) (hi : tb[i]? = some c) (hj : tb[j]? = some c) : i = j := by
  obtain ⟨hi1, hi2⟩ := List.getElem?_eq_some_iff.1 hi
  obtain ⟨hj1, hj2⟩ := List.getElem?_eq_some_iff.1 hj
  have hp := List.pairwise_iff_getElem.1 h
  rcases Nat.lt_trichotomy i j with hlt | rfl | hlt
  · exact absurd (hi2.trans hj2.symm) (hp i j hi1 hj1 hlt)
  · rfl
  · exact absurd (hj2.trans hi2.symm) (hp j i hj1 hi1 hlt)
/-- an expression has one number -/
theorem Num.one (tb : List (List UInt8)) (h : tb.Nodup) (x : Ex) : ∀ n m, Num tb x n → Num tb x m → n = m := by
  induction x using Ex.ind with
  | h k nm l ih =>
    intro n m hn hm
    rw [Num.def] at hn hm
    obtain ⟨ns, h1, h2, h3⟩ := hn
    obtain ⟨ms, g1, g2, g3⟩ := hm
    have e : ns = ms := by
      apply List.ext_getElem?
      intro i
      by_cases hi : i < l.length
      · have a1 : ns[i]? = some ns[i] := List.getElem?_eq_getElem (by omega)
        have a2 : ms[i]? = some ms[i] := List.getElem?_eq_getElem (by omega)
        have a3 : l[i]? = some l[i] := List.getElem?_eq_getElem hi
        rw [a1, a2, ih l[i] (List.getElem_mem hi) _ _ (h2 i _ _ a3 a1) (g2 i _ _ a3 a2)]
      · rw [List.getElem?_eq_none (by omega), List.getElem?_eq_none (by omega)]
    subst e
    exact nodup_index tb h n m _ h3 g3
/-- the sign by which a code begins tells its kind -/
theorem code_head (k : Nat) (nm : List UInt8) (ns : List Nat) (h : Shape k nm ns.length) : ∃ c r, code k nm ns = c :: r ∧
    ((k = 0 ∧ c.toNat = 48 ∧ r = []) ∨ (k = 1 ∧ c.toNat = 49 ∧ r = []) ∨ (k = 2 ∧ 97 ≤ c.toNat ∧ c.toNat ≤ 122 ∧ nm = c :: r) ∨ (k = 3 ∧ c.toNat = 94 ∧ nm = r) ∨ (k = 4 ∧ c.toNat = 126 ∧ nm = r) ∨ (k = 5 ∧ c.toNat = 33) ∨ (k = 6 ∧ c.toNat = 38) ∨ (k = 7 ∧ c.toNat = 124)) := by
  unfold code
  have hc : ∀ s : UInt8, ns ≠ [] → ∃ r, cat s ns = s :: r := by
    intro s hne
    match ns, hne with
    | a :: t, _ => exact ⟨_, cat_cons s a t⟩
  rcases h with ⟨h1, rfl, h3⟩ | ⟨h1, h2, h3, h4⟩ | ⟨rfl, rfl, h3⟩ | ⟨h1, h2, rfl, h4⟩
  · rw [if_pos (by omega)]
    by_cases h0 : k = 0
    · subst h0; exact ⟨48, [], by simp [text], .inl ⟨rfl, rfl, rfl⟩⟩
    · have : k = 1 := by omega
      subst this; exact ⟨49, [], by simp [text], .inr (.inl ⟨rfl, rfl, rfl⟩)⟩
  · rw [if_pos h2]
    obtain ⟨_, c, r, hnm, hc1, hc2⟩ := name_signs nm h3
    by_cases k2 : k = 2
    · subst k2; exact ⟨c, r, by simp [text, hnm], .inr (.inr (.inl ⟨rfl, hc1, hc2, hnm⟩))⟩
    · by_cases k3 : k = 3
      · subst k3; exact ⟨94, nm, by simp [text], .inr (.inr (.inr (.inl ⟨rfl, rfl, rfl⟩)))⟩
      · have k4 : k = 4 := by omega
        subst k4; exact ⟨126, nm, by simp [text], .inr (.inr (.inr (.inr (.inl ⟨rfl, rfl, rfl⟩))))⟩
  · rw [if_neg (by omega)]
    obtain ⟨r, hr⟩ := hc (sign 5) (by intro e; rw [e] at h3; simp at h3)
    exact ⟨33, r, hr, .inr (.inr (.inr (.inr (.inr (.inl ⟨rfl, rfl⟩)))))⟩
  · rw [if_neg (by omega)]
    obtain ⟨r, hr⟩ := hc (sign k) (by intro e; rw [e] at h4; simp at h4)
    by_cases k6 : k = 6
    · subst k6; exact ⟨38, r, hr, .inr (.inr (.inr (.inr (.inr (.inr (.inl ⟨rfl, rfl⟩))))))⟩
    · have k7 : k = 7 := by omega
      subst k7; exact ⟨124, r, hr, .inr (.inr (.inr (.inr (.inr (.inr (.inr ⟨rfl, rfl⟩))))))⟩
theorem sign_no (k : Nat) : ¬ (48 ≤ (sign k).toNat ∧ (sign k).toNat ≤ 57) := by
  unfold sign
  split
  · decide
  · split <;> decide
theorem code_inj (k j : Nat) (nm mm : List UInt8) (ns ms : List Nat) (h1 : Shape k nm ns.length) (h2 : Shape j mm ms.length) (h : code k nm ns = code j mm ms) : k = j ∧ nm = mm ∧ ns = ms := by
  obtain ⟨c, r, e1, q1⟩ := code_head k nm ns h1
  obtain ⟨d, t, e2, q2⟩ := code_head j mm ms h2
  have hcr := h
  rw [e1, e2] at hcr
  simp only [List.cons.injEq] at hcr
  obtain ⟨rfl, rfl⟩ := hcr
  have hk : k = j := by omega
  subst hk
  refine ⟨rfl, ?_, ?_⟩
  · by_cases k1 : k ≤ 1
    · rcases h1 with h1 | h1 | h1 | h1
      · rcases h2 with h2 | h2 | h2 | h2
        · rw [h1.2.1, h2.2.1]
        all_goals omega
      all_goals omega
    · by_cases k4 : k ≤ 4
      · rcases q1 with q1 | q1 | ⟨_, _, _, q1⟩ | ⟨_, _, q1⟩ | ⟨_, _, q1⟩ | q1 | q1 | q1
        all_goals try omega
        · rcases q2 with q2 | q2 | ⟨_, _, _, q2⟩ | q2 | q2 | q2 | q2 | q2
          all_goals try omega
          rw [q1, q2]
        · rcases q2 with q2 | q2 | q2 | ⟨_, _, q2⟩ | q2 | q2 | q2 | q2
          all_goals try omega
          rw [q1, q2]
        · rcases q2 with q2 | q2 | q2 | q2 | ⟨_, _, q2⟩ | q2 | q2 | q2
          all_goals try omega
          rw [q1, q2]
      · rcases h1 with h1 | h1 | h1 | h1
        · omega
        · omega
        · rcases h2 with h2 | h2 | h2 | h2
          · omega
          · omega
          · rw [h1.2.1, h2.2.1]
          · omega
        · rcases h2 with h2 | h2 | h2 | h2
          · omega
          · omega
          · omega
          · rw [h1.2.2.1, h2.2.2.1]
  · by_cases k4 : k ≤ 4
    · have z1 : ns.length = 0 := by rcases h1 with h1 | h1 | h1 | h1 <;> omega
      have z2 : ms.length = 0 := by rcases h2 with h2 | h2 | h2 | h2 <;> omega
      rw [List.length_eq_zero_iff.1 z1, List.length_eq_zero_iff.1 z2]
    · unfold code at h
      rw [if_neg k4, if_neg k4] at h
      exact cat_inj (sign k) (sign_no k) ns ms h
/-- a number stands for one expression -/
theorem Num.inj (tb : List (List UInt8)) (x : Ex) : ∀ (y : Ex) (n : Nat), Wf x → Wf y → Num tb x n → Num tb y n → x = y := by
  induction x using Ex.ind with
  | h k nm l ih =>
    intro y n hx hy hn hm
    obtain ⟨j, mm, l'⟩ := y
    rw [Num.def] at hn hm
    rw [Wf.def] at hx hy
    obtain ⟨ns, h1, h2, h3⟩ := hn
    obtain ⟨ms, g1, g2, g3⟩ := hm
    rw [h3] at g3
    obtain ⟨rfl, rfl, rfl⟩ := code_inj k j nm mm ns ms (by rw [h1]; exact hx.1) (by rw [g1]; exact hy.1) (Option.some.inj g3)
    have e : l = l' := by
      apply List.ext_getElem?
      intro i
      by_cases hi : i < ns.length
      · have a1 : ns[i]? = some ns[i] := List.getElem?_eq_getElem hi
        have a2 : l[i]? = some (l[i]'(by omega)) := List.getElem?_eq_getElem (by omega)
        have a3 : l'[i]? = some (l'[i]'(by omega)) := List.getElem?_eq_getElem (by omega)
        rw [a2, a3, ih _ (List.getElem_mem (by omega)) _ _ (hx.2 _ (List.getElem_mem (by omega))) (hy.2 _ (List.getElem_mem (by omega))) (h2 i _ _ a2 a1) (g2 i _ _ a3 a1)]
      · rw [List.getElem?_eq_none (by omega), List.getElem?_eq_none (by omega)]
    rw [e]
end Ex
end
section
namespace Ex
/-- what is left, and whether it is decided, behind one part more -/
def addS (k : Nat) (U : List Ex) (d : Bool) (x : Ex) : List Ex × Bool :=
  if x.kind ≤ 1 then (U, d || decide (x.kind = allK k)) else @ite _ (x ∈ U) (decMem x U) (U, d) (@ite _ (other x ∈ U) (decMem (other x) U) (U, true) (U ++ [x], d))
theorem addS_const (k : Nat) (U : List Ex) (d : Bool) (x : Ex) (h : x.kind ≤ 1) : addS k U d x = (U, d || decide (x.kind = allK k)) := by unfold addS; rw [if_pos h]
theorem addS_mem (k : Nat) (U : List Ex) (d : Bool) (x : Ex) (h : 2 ≤ x.kind) (hm : x ∈ U) : addS k U d x = (U, d) := by unfold addS; rw [if_neg (by omega), if_pos hm]
theorem addS_other (k : Nat) (U : List Ex) (d : Bool) (x : Ex) (h : 2 ≤ x.kind) (hm : x ∉ U) (ho : other x ∈ U) : addS k U d x = (U, true) := by unfold addS; rw [if_neg (by omega), if_neg hm, if_pos ho]
theorem addS_new (k : Nat) (U : List Ex) (d : Bool) (x : Ex) (h : 2 ≤ x.kind) (hm : x ∉ U) (ho : other x ∉ U) : addS k U d x = (U ++ [x], d) := by unfold addS; rw [if_neg (by omega), if_neg hm, if_neg ho]
/-- what has been gathered of these parts -/
def Gth (k : Nat) (L U : List Ex) (d : Bool) : Prop := (d = true ↔ dec k L) ∧ (d = false → U = addAll [] (nc L))
theorem Gth.nil (k : Nat) : Gth k [] [] false := by
  refine ⟨⟨by simp, ?_⟩, fun _ => rfl⟩
  rintro (⟨y, hy, _⟩ | ⟨y, hy, _⟩)
  · simp at hy
  · simp [nc] at hy
theorem Gth.rest {k : Nat} {L U : List Ex} (h : Gth k L U true) (M : List Ex) : Gth k (L ++ M) U true := by
  refine ⟨⟨fun _ => ?_, fun _ => rfl⟩, by simp⟩
  have := dec_mono k [] L M (h.1.1 rfl)
  simpa using this
theorem Gth.step {k : Nat} {L U : List Ex} {d : Bool} (h : Gth k L U d) (x : Ex) (hL : ∀ y, y ∈ L → Td y) (hx : Td x) : Gth k (L ++ [x]) (addS k U d x).1 (addS k U d x).2 := by
  have hs := dec_step k L x hL hx
  cases d with
  | true =>
    have hd := h.1.1 rfl
    have h2 : (addS k U true x).2 = true := by
      unfold addS
      split
      · simp
      · split
        · rfl
        · split <;> rfl
    rw [h2]
    exact ⟨⟨fun _ => hs.2 (.inl hd), fun _ => rfl⟩, by simp⟩
  | false =>
    have hnd : ¬ dec k L := fun e => by simpa using h.1.2 e
    have hU := h.2 rfl
    have hmem : ∀ y, y ∈ U ↔ y ∈ nc L := fun y => by rw [hU, mem_addAll]; simp
    by_cases hc : x.kind ≤ 1
    · rw [addS_const k U false x hc]
      have hn : nc (L ++ [x]) = nc L := by
        rw [nc_append]
        have : nc [x] = [] := by unfold nc; rw [List.filter_cons, if_neg (by simp; omega)]; rfl
        rw [this, List.append_nil]
      refine ⟨?_, fun _ => by rw [hn]; exact hU⟩
      rw [hs]
      simp only [Bool.false_or, decide_eq_true_eq]
      constructor
      · exact fun e => .inr (.inl e)
      · rintro (e | e | e)
        · exact absurd e hnd
        · exact e
        · omega
    · have h2 : 2 ≤ x.kind := by omega
      have hk : x.kind ≠ allK k := by have := allK_le k; omega
      have hn : nc (L ++ [x]) = nc L ++ [x] := by
        rw [nc_append]
        rw [nc_self [x] (by simpa using h2)]
      by_cases hm : x ∈ U
      · rw [addS_mem k U false x h2 hm]
        have hno : other x ∉ nc L := fun e => hnd (.inr ⟨x, (hmem x).1 hm, e⟩)
        refine ⟨?_, fun _ => ?_⟩
        · rw [hs]
          constructor
          · intro e; simp at e
          · rintro (e | e | e)
            · exact absurd e hnd
            · exact absurd e hk
            · exact absurd e.2 hno
        · rw [hn, addAll_append, ← hU, addAll_one_mem U x hm]
      · by_cases ho : other x ∈ U
        · rw [addS_other k U false x h2 hm ho]
          refine ⟨⟨fun _ => ?_, fun _ => rfl⟩, by simp⟩
          rw [hs]
          exact .inr (.inr ⟨h2, (hmem _).1 ho⟩)
        · rw [addS_new k U false x h2 hm ho]
          refine ⟨?_, fun _ => ?_⟩
          · rw [hs]
            constructor
            · intro e; simp at e
            · rintro (e | e | e)
              · exact absurd e hnd
              · exact absurd e hk
              · exact absurd ((hmem _).2 e.2) ho
          · rw [hn, addAll_append, ← hU, addAll_one_new U x hm]
theorem Gth.whole {k : Nat} {L U : List Ex} {d : Bool} (h : Gth k L U d) : gather k L = if d = true then ⟨allK k, [], []⟩ else wrap k U := by
  cases d with
  | true => rw [gather_dec k L (h.1.1 rfl)]; rfl
  | false => rw [gather_not k L (fun e => by simpa using h.1.2 e), h.2 rfl]; rfl
/-- the parts of a list that are added one behind the other -/
def addL (k : Nat) : List Ex → List Ex → Bool → List Ex × Bool
  | [], U, d => (U, d)
  | x :: r, U, d => addL k r (addS k U d x).1 (addS k U d x).2
theorem addL_snoc (k : Nat) (x : Ex) : ∀ (r U : List Ex) (d : Bool), addL k (r ++ [x]) U d = addS k (addL k r U d).1 (addL k r U d).2 x := by
  intro r
  induction r with
  | nil => intro U d; rfl
  | cons y t ih => intro U d; exact ih _ _
theorem Gth.list {k : Nat} {L U : List Ex} {d : Bool} (M : List Ex) (h : Gth k L U d) (hL : ∀ y, y ∈ L → Td y) (hM : ∀ y, y ∈ M → Td y) : Gth k (L ++ M) (addL k M U d).1 (addL k M U d).2 := by
  induction M generalizing L U d with
  | nil => simpa [addL] using h
  | cons x r ih =>
    have h1 := h.step x hL (hM x (by simp))
    have h2 := ih h1 (fun y hy => by
      rcases List.mem_append.1 hy with hy | hy
      · exact hL y hy
      · rw [List.mem_singleton.1 hy]; exact hM x (by simp)) (fun y hy => hM y (by simp [hy]))
    simpa [addL] using h2
/-- how many texts are numbered at the most -/
def cost : Ex → Nat
  | ⟨_, _, l⟩ => 1 + (l.map fun x => cost x + x.size).sum
theorem cost_def (k : Nat) (nm : List UInt8) (l : List Ex) : cost ⟨k, nm, l⟩ = 1 + (l.map fun x => cost x + x.size).sum := by simp [cost]
theorem cost_le (x : Ex) : cost x ≤ x.size * x.size := by
  induction x using Ex.ind with
  | h k nm l ih =>
    rw [cost_def, size_def]
    have hs : ∀ l : List Ex, (∀ x, x ∈ l → cost x ≤ x.size * x.size) → (l.map fun x => cost x + x.size).sum ≤ (l.map fun x => x.size).sum * (l.map fun x => x.size).sum + (l.map fun x => x.size).sum := by
      intro l
      induction l with
      | nil => intro _; simp
      | cons a r ihr =>
        intro h
        have h1 := h a (by simp)
        have h2 := ihr fun x hx => h x (by simp [hx])
        simp only [List.map_cons, List.sum_cons]
        generalize (r.map fun x => cost x + x.size).sum = p at *
        generalize (r.map fun x => x.size).sum = q at *
        generalize a.size = s at *
        generalize cost a = c at *
        have : (s + q) * (s + q) = s * s + s * q + (q * s + q * q) := by rw [Nat.add_mul, Nat.mul_add, Nat.mul_add]
        rw [this]
        have := Nat.zero_le (s * q)
        have := Nat.zero_le (q * s)
        omega
    have := hs l ih
    generalize (l.map fun x => cost x + x.size).sum = p at *
    generalize (l.map fun x => x.size).sum = q at *
    have e : (1 + q) * (1 + q) = 1 + q + (q + q * q) := by rw [Nat.add_mul, Nat.mul_add q 1 q]; omega
    rw [e]
    omega
theorem cost_pos (x : Ex) : 1 ≤ cost x := by obtain ⟨k, nm, l⟩ := x; rw [cost_def]; omega
/-- the parts that come of one are no more than it is great -/
theorem pieces_len (k : Nat) (x : Ex) (h : Wf x) : (pieces k x.tidy).length ≤ x.size := by
  have h1 := pieces_sum k x.tidy
  have h2 := size_tidy x h
  have h3 : ∀ L : List Ex, L.length ≤ (L.map fun x => x.size).sum := by
    intro L
    induction L with
    | nil => simp
    | cons a r ih =>
      have := size_pos a
      simp only [List.map_cons, List.sum_cons, List.length_cons]
      omega
  have := h3 (pieces k x.tidy)
  omega
theorem addS_len (k : Nat) (U : List Ex) (d : Bool) (x : Ex) : (addS k U d x).1.length ≤ U.length + 1 := by
  unfold addS
  split
  · simp
  · split
    · simp
    · split <;> simp
theorem addL_len (k : Nat) : ∀ (M U : List Ex) (d : Bool), (addL k M U d).1.length ≤ U.length + M.length := by
  intro M
  induction M with
  | nil => intro U d; simp [addL]
  | cons x r ih =>
    intro U d
    have h1 := ih (addS k U d x).1 (addS k U d x).2
    have h2 := addS_len k U d x
    show (addL k r (addS k U d x).1 (addS k U d x).2).1.length ≤ U.length + (x :: r).length
    simp only [List.length_cons]
    omega
end Ex
end
section
namespace Sc
structure St where
  is : List Bool
  ct : List Int
def further (a most : Int) : Int := if a < most then a + 1 else most
def run (n : Nat) (most : Int) (says : Bool) (s : St) : St :=
  let c := if says then further (s.ct.getD n 0) most else 0
  ⟨s.is.set n (c == most), s.ct.set n c⟩
def count (n : Nat) (most : Int) (says : Bool) (s : St) : St :=
  let c := if says then further (s.ct.getD n 0) most else s.ct.getD n 0
  ⟨s.is.set n (c == most), s.ct.set n c⟩
def zero (n : Nat) (says : Bool) (s : St) : St := if says then ⟨s.is.set n false, s.ct.set n 0⟩ else s
/-- a rung of kind k does this to name n, whose count is most -/
def rung (k : Int) (n : Nat) (most : Int) (says : Bool) (s : St) : St :=
  if k = 1 then ⟨s.is.set n says, s.ct⟩
  else if k = 2 then ⟨s.is.set n (s.is.getD n false || says), s.ct⟩
  else if k = 3 then ⟨s.is.set n (s.is.getD n false && !says), s.ct⟩
  else if k = 4 then run n most says s
  else if k = 5 then count n most says s
  else if k = 6 then zero n says s
  else s
theorem rung_len (k : Int) (n : Nat) (most : Int) (says : Bool) (s : St) : (rung k n most says s).is.length = s.is.length ∧ (rung k n most says s).ct.length = s.ct.length := by
  unfold rung run count zero
  repeat' split
  all_goals simp
/-- what names are, told -/
def told (ns : List Ld.Nme) (l : List Bool) (s : List UInt8) : Bool := decide (0 ≤ Ld.number ns s) && l.getD (Ld.number ns s).toNat false
def doRung (ns : List Ld.Nme) (was : List Bool) (s : St) (r : Ld.Rng) : St :=
  match r.cond with
  | some x => if 0 ≤ Ld.number ns r.name then rung r.kind (Ld.number ns r.name).toNat ((ns.getD (Ld.number ns r.name).toNat ⟨[], 0, 0⟩).count) (x.eval (told ns s.is) (told ns was)) s else s
  | none => s
/-- inputs are read -/
def reads (l : List Nat) (inp : List Bool) (is : List Bool) : List Bool := (l.zip inp).foldl (fun acc p => acc.set p.1 p.2) is
def step (p : Ld.Prg) (s : St) (inp : List Bool) : St := p.rungs.foldl (doRung p.names s.is) ⟨reads (Ld.kindL p.names 1) inp s.is, s.ct⟩
def start (p : Ld.Prg) : St := ⟨List.replicate p.names.length false, List.replicate p.names.length 0⟩
end Sc
end
end Go.Proofs.YtjfgfcajmkbmeaaGreatDoor
