/-
  Plain mathematics of the program's numbering: a sign ahead of parts that are told by their numbers; in a table without doubles two expressions have one number just if they are one. Nothing of the program is named here.
-/
import Derived.Test.YtpidknogiiclfaaGreatDoorTdMore
import Derived.Lib.ItoaNum
namespace Go.Proofs.YtpidknogiiclfaaGreatDoor
open Go.Lib (decDigits)
/-- the number that digits tell -/
def dval (l : List UInt8) : Nat := l.foldl (fun a c => a * 10 + (c.toNat - 48)) 0
theorem dval_snoc (l : List UInt8) (c : UInt8) : dval (l ++ [c]) = dval l * 10 + (c.toNat - 48) := by simp [dval]
theorem digit_nat (u : Nat) (h : u < 10) : (UInt8.ofNat (48 + u)).toNat = 48 + u := by simp; omega
theorem dec_digits (u : Nat) : (∀ c, c ∈ decDigits u → 48 ≤ c.toNat ∧ c.toNat ≤ 57) ∧ decDigits u ≠ [] ∧ dval (decDigits u) = u := by
  induction u using Nat.strongRecOn with
  | ind u ih =>
    by_cases h : u < 10
    · rw [decDigits, dif_pos h]
      have := digit_nat u h
      refine ⟨fun c hc => ?_, by simp, ?_⟩
      · simp only [List.mem_singleton] at hc; subst hc; omega
      · have e := dval_snoc [] (UInt8.ofNat (48 + u))
        simp only [List.nil_append] at e
        rw [e, this]
        simp [dval]
    · rw [decDigits, dif_neg h]
      obtain ⟨h1, _, h3⟩ := ih (u / 10) (by omega)
      have := digit_nat (u % 10) (by omega)
      refine ⟨fun c hc => ?_, by simp, ?_⟩
      · rcases List.mem_append.1 hc with hc | hc
        · exact h1 c hc
        · simp only [List.mem_singleton] at hc; subst hc; omega
      · rw [dval_snoc, h3, this]
        omega
theorem dec_inj (a b : Nat) (h : decDigits a = decDigits b) : a = b := by
  rw [← (dec_digits a).2.2, ← (dec_digits b).2.2, h]
/-- digits, and then what is none -/
theorem digits_split : ∀ (a b r t : List UInt8), (∀ c, c ∈ a → 48 ≤ c.toNat ∧ c.toNat ≤ 57) → (∀ c, c ∈ b → 48 ≤ c.toNat ∧ c.toNat ≤ 57) → (∀ c, r.head? = some c → ¬ (48 ≤ c.toNat ∧ c.toNat ≤ 57)) → (∀ c, t.head? = some c → ¬ (48 ≤ c.toNat ∧ c.toNat ≤ 57)) → a ++ r = b ++ t → a = b ∧ r = t := by
  intro a
  induction a with
  | nil =>
    intro b r t _ hb hr _ h
    match b, hb with
    | [], _ => exact ⟨rfl, by simpa using h⟩
    | c :: s, hb =>
      exfalso
      simp only [List.nil_append, List.cons_append] at h
      exact hr c (by rw [h]; rfl) (hb c (by simp))
  | cons c s ih =>
    intro b r t ha hb hr ht h
    match b, hb with
    | [], _ =>
      exfalso
      simp only [List.nil_append, List.cons_append] at h
      exact ht c (by rw [← h]; rfl) (ha c (by simp))
    | d :: u, hb =>
      simp only [List.cons_append, List.cons.injEq] at h
      obtain ⟨rfl, h⟩ := h
      obtain ⟨e1, e2⟩ := ih u r t (fun x hx => ha x (by simp [hx])) (fun x hx => hb x (by simp [hx])) hr ht h
      exact ⟨by rw [e1], e2⟩
/-- a sign ahead of each number -/
def cat (s : UInt8) (ns : List Nat) : List UInt8 := (ns.map fun i => s :: decDigits i).flatten
theorem cat_cons (s : UInt8) (a : Nat) (r : List Nat) : cat s (a :: r) = s :: (decDigits a ++ cat s r) := by simp [cat]
theorem cat_head (s : UInt8) (ns : List Nat) : ∀ c, (cat s ns).head? = some c → c = s := by
  intro c h
  match ns with
  | [] => simp [cat] at h
  | a :: r => rw [cat_cons] at h; simpa using h.symm
theorem cat_inj (s : UInt8) (hs : ¬ (48 ≤ s.toNat ∧ s.toNat ≤ 57)) : ∀ ns ms : List Nat, cat s ns = cat s ms → ns = ms := by
  intro ns
  induction ns with
  | nil =>
    intro ms h
    match ms with
    | [] => rfl
    | b :: t => rw [cat_cons] at h; simp [cat] at h
  | cons a r ih =>
    intro ms h
    match ms with
    | [] => rw [cat_cons] at h; simp [cat] at h
    | b :: t =>
      rw [cat_cons, cat_cons] at h
      simp only [List.cons.injEq, true_and] at h
      obtain ⟨e1, e2⟩ := digits_split _ _ _ _ (dec_digits a).1 (dec_digits b).1 (fun c hc => by rw [cat_head s r c hc]; exact hs) (fun c hc => by rw [cat_head s t c hc]; exact hs) h
      rw [dec_inj a b e1, ih t e2]
namespace Ex
def sign (k : Nat) : UInt8 := if k = 5 then 33 else if k = 6 then 38 else 124
/-- by what an expression is told in the table -/
def code (k : Nat) (nm : List UInt8) (ns : List Nat) : List UInt8 := if k ≤ 4 then text ⟨k, nm, []⟩ else cat (sign k) ns
def Num (tb : List (List UInt8)) : Ex → Nat → Prop
  | ⟨k, nm, l⟩ => fun n => ∃ ns : List Nat, ns.length = l.length ∧ (∀ (i : Nat) (P : Nat → Prop) (m : Nat), (l.map fun y => Num tb y)[i]? = some P → ns[i]? = some m → P m) ∧ tb[n]? = some (code k nm ns)
theorem Num.def (tb : List (List UInt8)) (k : Nat) (nm : List UInt8) (l : List Ex) (n : Nat) : Num tb ⟨k, nm, l⟩ n ↔ ∃ ns : List Nat, ns.length = l.length ∧ (∀ (i : Nat) (y : Ex) (m : Nat), l[i]? = some y → ns[i]? = some m → Num tb y m) ∧ tb[n]? = some (code k nm ns) := by
  simp only [Num]
  constructor
  · rintro ⟨ns, h1, h2, h3⟩
    exact ⟨ns, h1, fun i y m hy hm => h2 i _ m (by rw [List.getElem?_map, hy]; rfl) hm, h3⟩
  · rintro ⟨ns, h1, h2, h3⟩
    refine ⟨ns, h1, fun i P m hP hm => ?_, h3⟩
    rw [List.getElem?_map] at hP
    cases hl : l[i]? with
    | none => rw [hl] at hP; simp at hP
    | some y =>
      rw [hl] at hP
      simp only [Option.map_some, Option.some.injEq] at hP
      rw [← hP]
      exact h2 i y m hl hm
theorem Num.mono (tb more : List (List UInt8)) (x : Ex) : ∀ n, Num tb x n → Num (tb ++ more) x n := by
  induction x using Ex.ind with
  | h k nm l ih =>
    intro n h
    rw [Num.def] at h ⊢
    obtain ⟨ns, h1, h2, h3⟩ := h
    refine ⟨ns, h1, fun i y m hy hm => ih y (List.mem_of_getElem? hy) m (h2 i y m hy hm), ?_⟩
    have hl : n < tb.length := by
      by_cases h : n < tb.length
      · exact h
      · rw [List.getElem?_eq_none (by omega)] at h3; simp at h3
    rw [List.getElem?_append_left hl]
    exact h3
theorem nodup_index (tb : List (List UInt8)) (h : tb.Nodup) (i j : Nat) (c : List UInt8) (hi : tb[i]? = some c) (hj : tb[j]? = some c) : i = j := by
  obtain ⟨hi1, hi2⟩ := List.getElem?_eq_some_iff.1 hi
  obtain ⟨hj1, hj2⟩ := List.getElem?_eq_some_iff.1 hj
  have hp := List.pairwise_iff_getElem.1 h
  rcases Nat.lt_trichotomy i j with hlt | rfl | hlt
  · exact absurd (hi2.trans hj2.symm) (hp i j hi1 hj1 hlt)
  · rfl
  · exact absurd (hj2.trans hi2.symm) (hp j i hj1 hi1 hlt)
/-- an expression has one number -/
theorem Num.one (tb : List (List UInt8)) (h : tb.Nodup) (x : Ex) : ∀ n m, Num tb x n → Num tb x m → n = m := by
  induction x using Ex.ind with
  | h k nm l ih =>
    intro n m hn hm
    rw [Num.def] at hn hm
    obtain ⟨ns, h1, h2, h3⟩ := hn
    obtain ⟨ms, g1, g2, g3⟩ := hm
    have e : ns = ms := by
      apply List.ext_getElem?
      intro i
      by_cases hi : i < l.length
      · have a1 : ns[i]? = some ns[i] := List.getElem?_eq_getElem (by omega)
        have a2 : ms[i]? = some ms[i] := List.getElem?_eq_getElem (by omega)
        have a3 : l[i]? = some l[i] := List.getElem?_eq_getElem hi
        rw [a1, a2, ih l[i] (List.getElem_mem hi) _ _ (h2 i _ _ a3 a1) (g2 i _ _ a3 a2)]
      · rw [List.getElem?_eq_none (by omega), List.getElem?_eq_none (by omega)]
    subst e
    exact nodup_index tb h n m _ h3 g3
/-- the sign by which a code begins tells its kind -/
theorem code_head (k : Nat) (nm : List UInt8) (ns : List Nat) (h : Shape k nm ns.length) : ∃ c r, code k nm ns = c :: r ∧
    ((k = 0 ∧ c.toNat = 48 ∧ r = []) ∨ (k = 1 ∧ c.toNat = 49 ∧ r = []) ∨ (k = 2 ∧ 97 ≤ c.toNat ∧ c.toNat ≤ 122 ∧ nm = c :: r) ∨ (k = 3 ∧ c.toNat = 94 ∧ nm = r) ∨ (k = 4 ∧ c.toNat = 126 ∧ nm = r) ∨ (k = 5 ∧ c.toNat = 33) ∨ (k = 6 ∧ c.toNat = 38) ∨ (k = 7 ∧ c.toNat = 124)) := by
  unfold code
  have hc : ∀ s : UInt8, ns ≠ [] → ∃ r, cat s ns = s :: r := by
    intro s hne
    match ns, hne with
    | a :: t, _ => exact ⟨_, cat_cons s a t⟩
  rcases h with ⟨h1, rfl, h3⟩ | ⟨h1, h2, h3, h4⟩ | ⟨rfl, rfl, h3⟩ | ⟨h1, h2, rfl, h4⟩
  · rw [if_pos (by omega)]
    by_cases h0 : k = 0
    · subst h0; exact ⟨48, [], by simp [text], .inl ⟨rfl, rfl, rfl⟩⟩
    · have : k = 1 := by omega
      subst this; exact ⟨49, [], by simp [text], .inr (.inl ⟨rfl, rfl, rfl⟩)⟩
  · rw [if_pos h2]
    obtain ⟨_, c, r, hnm, hc1, hc2⟩ := name_signs nm h3
    by_cases k2 : k = 2
    · subst k2; exact ⟨c, r, by simp [text, hnm], .inr (.inr (.inl ⟨rfl, hc1, hc2, hnm⟩))⟩
    · by_cases k3 : k = 3
      · subst k3; exact ⟨94, nm, by simp [text], .inr (.inr (.inr (.inl ⟨rfl, rfl, rfl⟩)))⟩
      · have k4 : k = 4 := by omega
        subst k4; exact ⟨126, nm, by simp [text], .inr (.inr (.inr (.inr (.inl ⟨rfl, rfl, rfl⟩))))⟩
  · rw [if_neg (by omega)]
    obtain ⟨r, hr⟩ := hc (sign 5) (by intro e; rw [e] at h3; simp at h3)
    exact ⟨33, r, hr, .inr (.inr (.inr (.inr (.inr (.inl ⟨rfl, rfl⟩)))))⟩
  · rw [if_neg (by omega)]
    obtain ⟨r, hr⟩ := hc (sign k) (by intro e; rw [e] at h4; simp at h4)
    by_cases k6 : k = 6
    · subst k6; exact ⟨38, r, hr, .inr (.inr (.inr (.inr (.inr (.inr (.inl ⟨rfl, rfl⟩))))))⟩
    · have k7 : k = 7 := by omega
      subst k7; exact ⟨124, r, hr, .inr (.inr (.inr (.inr (.inr (.inr (.inr ⟨rfl, rfl⟩))))))⟩
theorem sign_no (k : Nat) : ¬ (48 ≤ (sign k).toNat ∧ (sign k).toNat ≤ 57) := by
  unfold sign
  split
  · decide
  · split <;> decide
theorem code_inj (k j : Nat) (nm mm : List UInt8) (ns ms : List Nat) (h1 : Shape k nm ns.length) (h2 : Shape j mm ms.length) (h : code k nm ns = code j mm ms) : k = j ∧ nm = mm ∧ ns = ms := by
  obtain ⟨c, r, e1, q1⟩ := code_head k nm ns h1
  obtain ⟨d, t, e2, q2⟩ := code_head j mm ms h2
  have hcr := h
  rw [e1, e2] at hcr
  simp only [List.cons.injEq] at hcr
  obtain ⟨rfl, rfl⟩ := hcr
  have hk : k = j := by omega
  subst hk
  refine ⟨rfl, ?_, ?_⟩
  · by_cases k1 : k ≤ 1
    · rcases h1 with h1 | h1 | h1 | h1
      · rcases h2 with h2 | h2 | h2 | h2
        · rw [h1.2.1, h2.2.1]
        all_goals omega
      all_goals omega
    · by_cases k4 : k ≤ 4
      · rcases q1 with q1 | q1 | ⟨_, _, _, q1⟩ | ⟨_, _, q1⟩ | ⟨_, _, q1⟩ | q1 | q1 | q1
        all_goals try omega
        · rcases q2 with q2 | q2 | ⟨_, _, _, q2⟩ | q2 | q2 | q2 | q2 | q2
          all_goals try omega
          rw [q1, q2]
        · rcases q2 with q2 | q2 | q2 | ⟨_, _, q2⟩ | q2 | q2 | q2 | q2
          all_goals try omega
          rw [q1, q2]
        · rcases q2 with q2 | q2 | q2 | q2 | ⟨_, _, q2⟩ | q2 | q2 | q2
          all_goals try omega
          rw [q1, q2]
      · rcases h1 with h1 | h1 | h1 | h1
        · omega
        · omega
        · rcases h2 with h2 | h2 | h2 | h2
          · omega
          · omega
          · rw [h1.2.1, h2.2.1]
          · omega
        · rcases h2 with h2 | h2 | h2 | h2
          · omega
          · omega
          · omega
          · rw [h1.2.2.1, h2.2.2.1]
  · by_cases k4 : k ≤ 4
    · have z1 : ns.length = 0 := by rcases h1 with h1 | h1 | h1 | h1 <;> omega
      have z2 : ms.length = 0 := by rcases h2 with h2 | h2 | h2 | h2 <;> omega
      rw [List.length_eq_zero_iff.1 z1, List.length_eq_zero_iff.1 z2]
    · unfold code at h
      rw [if_neg k4, if_neg k4] at h
      exact cat_inj (sign k) (sign_no k) ns ms h
/-- a number stands for one expression -/
theorem Num.inj (tb : List (List UInt8)) (x : Ex) : ∀ (y : Ex) (n : Nat), Wf x → Wf y → Num tb x n → Num tb y n → x = y := by
  induction x using Ex.ind with
  | h k nm l ih =>
    intro y n hx hy hn hm
    obtain ⟨j, mm, l'⟩ := y
    rw [Num.def] at hn hm
    rw [Wf.def] at hx hy
    obtain ⟨ns, h1, h2, h3⟩ := hn
    obtain ⟨ms, g1, g2, g3⟩ := hm
    rw [h3] at g3
    obtain ⟨rfl, rfl, rfl⟩ := code_inj k j nm mm ns ms (by rw [h1]; exact hx.1) (by rw [g1]; exact hy.1) (Option.some.inj g3)
    have e : l = l' := by
      apply List.ext_getElem?
      intro i
      by_cases hi : i < ns.length
      · have a1 : ns[i]? = some ns[i] := List.getElem?_eq_getElem hi
        have a2 : l[i]? = some (l[i]'(by omega)) := List.getElem?_eq_getElem (by omega)
        have a3 : l'[i]? = some (l'[i]'(by omega)) := List.getElem?_eq_getElem (by omega)
        rw [a2, a3, ih _ (List.getElem_mem (by omega)) _ _ (hx.2 _ (List.getElem_mem (by omega))) (hy.2 _ (List.getElem_mem (by omega))) (h2 i _ _ a2 a1) (g2 i _ _ a3 a1)]
      · rw [List.getElem?_eq_none (by omega), List.getElem?_eq_none (by omega)]
    rw [e]
end Ex
end Go.Proofs.YtpidknogiiclfaaGreatDoor
