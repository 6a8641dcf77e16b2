/-
  Plain mathematics of chapter 2: what a program's text tells is that program again.
-/
import Derived.Test.YtkpfahbodlfpiaaGreatDoorRtBoundAll
import Derived.Test.YtkpfahbodlfpiaaGreatDoorRtParse
namespace Go.Proofs.YtkpfahbodlfpiaaGreatDoor
namespace Ex
/-- the blank ahead of an expression is passed over -/
theorem parse_back_blank (l : List UInt8) (x : Ex) (h : parse l = .inr x) (hlen : x.text.length ≤ 1999) : parse (32 :: x.text) = .inr x := by
  have hf := parse_fit l x h
  have hW := whole_back (32 :: x.text) 20 (piece_back (32 :: x.text) 20) x hf
  obtain ⟨c, r, hc, hc32⟩ := hW.2
  have hsk : skip (32 :: x.text) 0 = ([32] : List UInt8).length := by
    rw [skip_blank (32 :: x.text) 0 (by simp) (by simp)]
    have := skip_append [32] x.text 0
    simp only [List.length_singleton, Nat.add_zero, List.singleton_append] at this
    rw [this, hc, skip_cons c r hc32]; rfl
  obtain ⟨m, hm, hml, hms⟩ := hW.1 [32] [] 0 (by simp) ⟨by simp [Stop, sg, ends], by simp [nxt, sg, skip], by simp [nxt, sg, skip]⟩ (Nat.zero_le _) hsk
  unfold parse
  rw [if_neg (by simp; omega), hm]
  simp only
  rw [hms]
  have : skip (32 :: x.text) (([32] : List UInt8).length + x.text.length) = (32 :: x.text).length := by rw [skip_end]; all_goals (simp; try omega)
  rw [this, if_neg (by omega)]
theorem mem_join (sep : List UInt8) (c : UInt8) : ∀ l : List (List UInt8), c ∈ join sep l → c ∈ sep ∨ ∃ a, a ∈ l ∧ c ∈ a
  | [], h => by simp [join] at h
  | [a], h => .inr ⟨a, by simp, by simpa [join] using h⟩
  | a :: b :: r, h => by
    rw [join_two, List.mem_append, List.mem_append] at h
    rcases h with (h | h) | h
    · exact .inr ⟨a, by simp, h⟩
    · exact .inl h
    · rcases mem_join sep c (b :: r) h with h | ⟨q, hq, hc⟩
      · exact .inl h
      · exact .inr ⟨q, by simp [List.mem_cons] at hq ⊢; exact .inr hq, hc⟩
theorem mem_par (b : Bool) (l : List UInt8) (c : UInt8) (h : c ∈ par b l) : c = 40 ∨ c = 41 ∨ c ∈ l := by
  cases b with
  | false => exact .inr (.inr h)
  | true =>
    simp only [par, if_true, List.mem_cons, List.mem_append, List.not_mem_nil, or_false] at h
    rcases h with h | h | h
    · exact .inl h
    · exact .inr (.inr h)
    · exact .inr (.inl h)
/-- the bytes of a text are those of its names, or one of few signs -/
theorem text_bytes (x : Ex) : ∀ c, c ∈ x.text → c ∈ [48, 49, 94, 126, 33, 40, 41, 32, 38, (124 : UInt8)] ∨ ∃ n, n ∈ x.named true ∧ c ∈ n := by
  induction x using Ex.ind with
  | h k nm l ih =>
    intro c hc
    have sub : ∀ (y : Ex), y ∈ l → (k ≠ 2 ∧ k ≠ 3 ∧ k ≠ 4) → c ∈ y.text → c ∈ [48, 49, 94, 126, 33, 40, 41, 32, 38, (124 : UInt8)] ∨ ∃ n, n ∈ named true ⟨k, nm, l⟩ ∧ c ∈ n := by
      intro y hy hk h
      rcases ih y hy c h with h | ⟨n, hn, hcn⟩
      · exact .inl h
      · refine .inr ⟨n, ?_, hcn⟩
        rw [named_of _ _ _ _ hk, List.mem_flatten]
        exact ⟨_, List.mem_map_of_mem hy, hn⟩
    have list : ∀ (s : UInt8) (t : Nat), s ∈ [38, (124 : UInt8)] → (k ≠ 2 ∧ k ≠ 3 ∧ k ≠ 4) → c ∈ join [32, s, 32] (l.map fun x => par (decide (t ≤ x.kind)) x.text) → c ∈ [48, 49, 94, 126, 33, 40, 41, 32, 38, (124 : UInt8)] ∨ ∃ n, n ∈ named true ⟨k, nm, l⟩ ∧ c ∈ n := by
      intro s t hs hk h
      rcases mem_join _ _ _ h with h | ⟨a, ha, hca⟩
      · left
        simp only [List.mem_cons, List.not_mem_nil, or_false] at h hs ⊢
        rcases h with h | h | h
        · simp [h]
        · rcases hs with hs | hs <;> simp [h, hs]
        · simp [h]
      · rw [List.mem_map] at ha
        obtain ⟨y, hy, rfl⟩ := ha
        rcases mem_par _ _ _ hca with h | h | h
        · left; simp [h]
        · left; simp [h]
        · exact sub y hy hk h
    match k, hc, sub, list with
    | 0, hc, _, _ => simp [text] at hc; left; simp [hc]
    | 1, hc, _, _ => simp [text] at hc; left; simp [hc]
    | 2, hc, _, _ => right; exact ⟨nm, by rw [named2]; simp, by simpa [text] using hc⟩
    | 3, hc, _, _ =>
      simp only [text, List.mem_cons] at hc
      rcases hc with h | h
      · left; simp [h]
      · right; exact ⟨nm, by rw [named3]; simp, h⟩
    | 4, hc, _, _ =>
      simp only [text, List.mem_cons] at hc
      rcases hc with h | h
      · left; simp [h]
      · right; exact ⟨nm, by rw [named4]; simp, h⟩
    | 5, hc, sub, _ =>
      simp only [text, List.mem_cons] at hc
      rcases hc with h | h
      · left; simp [h]
      · rw [List.mem_flatten] at h
        obtain ⟨a, ha, hca⟩ := h
        rw [List.mem_map] at ha
        obtain ⟨y, hy, rfl⟩ := ha
        rcases mem_par _ _ _ hca with h | h | h
        · left; simp [h]
        · left; simp [h]
        · exact sub y hy (by decide) h
    | 6, hc, _, list => rw [text6] at hc; exact list 38 6 (by simp) (by decide) hc
    | k + 7, hc, _, list =>
      have e : text ⟨k + 7, nm, l⟩ = join [32, 124, 32] (l.map fun x => par (decide (7 ≤ x.kind)) x.text) := by simp [text]
      rw [e] at hc
      exact list 124 7 (by simp) ⟨by omega, by omega, by omega⟩ hc
end Ex
namespace Ld
theorem split_ne (c : UInt8) (l : List UInt8) : split c l ≠ [] := by
  cases l with
  | nil => simp [split]
  | cons a r =>
    unfold split
    by_cases h : a = c
    · simp [h]
    · rw [if_neg h]
      cases split c r with
      | nil => simp
      | cons x y => simp
theorem split_none (c : UInt8) (a : List UInt8) (h : c ∉ a) : split c a = [a] := by
  induction a with
  | nil => rfl
  | cons x r ih =>
    have h1 : x ≠ c := fun e => h (by simp [e])
    rw [split, if_neg h1, ih (fun e => h (by simp [e]))]
theorem split_at (c : UInt8) (a r : List UInt8) (h : c ∉ a) : split c (a ++ c :: r) = a :: split c r := by
  induction a with
  | nil => simp [split]
  | cons x t ih =>
    have h1 : x ≠ c := fun e => h (by simp [e])
    rw [List.cons_append, split, if_neg h1, ih (fun e => h (by simp [e]))]
theorem split_ended (ls : List (List UInt8)) (h : ∀ a, a ∈ ls → (10 : UInt8) ∉ a) : split 10 (ended ls) = ls ++ [[]] := by
  induction ls with
  | nil => rfl
  | cons a r ih =>
    have e : ended (a :: r) = a ++ 10 :: ended r := by simp [ended]
    rw [e, split_at 10 a _ (h a (by simp)), ih fun b hb => h b (by simp [hb])]; rfl
theorem words_one (a : List UInt8) (h : (32 : UInt8) ∉ a) (hne : a ≠ []) : words a = [a] := by
  unfold words
  rw [split_none 32 a h]
  cases a with
  | nil => exact absurd rfl hne
  | cons x y => rfl
theorem words_cons (a r : List UInt8) (h : (32 : UInt8) ∉ a) (hne : a ≠ []) : words (a ++ 32 :: r) = a :: words r := by
  unfold words
  rw [split_at 32 a r h]
  cases a with
  | nil => exact absurd rfl hne
  | cons x y => rfl
theorem words_nil : words [] = [] := rfl
/-- the lines of a program's text, each with its place -/
theorem lns_ended (ls : List (List UInt8)) (h : ∀ a, a ∈ ls → (10 : UInt8) ∉ a) (hb : ∀ a, a ∈ ls → isBlank a = false) : lns (ended ls) = placed 0 ls := by
  unfold lns
  rw [split_ended ls h]
  have key : ∀ (ls : List (List UInt8)) (i : Nat), (∀ a, a ∈ ls → isBlank a = false) → (placed i (ls ++ [[]])).filter (fun p => !isBlank p.2) = placed i ls := by
    intro ls
    induction ls with
    | nil => intro i _; rfl
    | cons a r ih =>
      intro i hb
      rw [List.cons_append, placed, placed, List.filter_cons_of_pos (by simp [hb a (by simp)]), ih _ fun b hb' => hb b (by simp [hb'])]
  exact key ls 0 hb
/-- what a name's bytes are -/
theorem name_byte (n : List UInt8) (h : Nm.name n = true) (c : UInt8) (hc : c ∈ n) : (48 ≤ c.toNat ∧ c.toNat ≤ 57) ∨ c.toNat = 95 ∨ (97 ≤ c.toNat ∧ c.toNat ≤ 122) := by
  unfold Nm.name at h
  simp only [Bool.and_eq_true] at h
  have h1 := h.1.2
  unfold Nm.upto at h1
  rw [List.take_length, List.all_eq_true] at h1
  have := h1 c hc
  simp only [Nm.nm, Nm.lo, Nm.di, Bool.or_eq_true, Bool.and_eq_true, decide_eq_true_eq, beq_iff_eq] at this
  omega
theorem name_ne (n : List UInt8) (h : Nm.name n = true) : n ≠ [] := by
  intro e; subst e; simp [Nm.name] at h
theorem name_no (n : List UInt8) (h : Nm.name n = true) (b : UInt8) (hb : b.toNat < 48 ∨ b.toNat = 61) : b ∉ n := by
  intro hc
  have := name_byte n h b hc
  omega
/-- what check says of names and rungs -/
theorem check_names (p : Prg) (h : check p = none) : p.names.length ≤ 12 ∧ p.rungs.length ≤ 40 ∧ (∀ n, n ∈ p.names → Nm.name n.name = true ∧ 1 ≤ n.kind ∧ n.kind ≤ 4 ∧ mayCount n.kind n.count = true) ∧
    ∀ r, r ∈ p.rungs → 1 ≤ r.kind ∧ r.kind ≤ 6 ∧ Nm.name r.name = true ∧ ∃ x, r.cond = some x ∧ ∀ n, n ∈ x.named true → Nm.name n = true := by
  unfold check at h
  by_cases hl : 12 < p.names.length ∨ 40 < p.rungs.length
  · rw [if_pos hl] at h; cases h
  rw [if_neg hl] at h
  cases hn : bad (nameAt p.names) p.names.length with
  | some r => rw [hn] at h; cases h
  | none =>
    rw [hn] at h
    simp only at h
    cases hr : bad (rungAt p) p.rungs.length with
    | some r => rw [hr] at h; cases h
    | none =>
      have hnames : ∀ n, n ∈ p.names → Nm.name n.name = true ∧ 1 ≤ n.kind ∧ n.kind ≤ 4 ∧ mayCount n.kind n.count = true := by
        intro n hm
        obtain ⟨i, hi, rfl⟩ := List.getElem_of_mem hm
        have := bad_none _ _ hn i hi
        rw [nameAt_at _ _ hi, wrongN] at this
        by_cases h1 : Nm.name p.names[i].name = false
        · rw [if_pos h1] at this; cases this
        rw [if_neg h1] at this
        by_cases h2 : p.names[i].kind < 1 ∨ 4 < p.names[i].kind
        · rw [if_pos h2] at this; cases this
        rw [if_neg h2] at this
        by_cases h3 : mayCount p.names[i].kind p.names[i].count = false
        · rw [if_pos h3] at this; cases this
        exact ⟨by simpa using h1, by omega, by omega, by simpa using h3⟩
      have hnum : ∀ s, 0 ≤ number p.names s → Nm.name s = true := by
        intro s hs
        rcases number_cases p.names s with ⟨h, _⟩ | ⟨k, hk, h, h2, _⟩
        · omega
        · rw [← h2]; exact (hnames _ (List.getElem_mem hk)).1
      refine ⟨by omega, by omega, hnames, ?_⟩
      intro r hm
      obtain ⟨i, hi, rfl⟩ := List.getElem_of_mem hm
      have := bad_none _ _ hr i hi
      rw [rungAt_at _ _ hi, wrongR] at this
      by_cases h1 : p.rungs[i].kind < 1 ∨ 6 < p.rungs[i].kind
      · rw [if_pos h1] at this; cases this
      rw [if_neg h1] at this
      cases hc : p.rungs[i].cond with
      | none => rw [hc] at this; cases this
      | some x =>
        rw [hc] at this
        simp only at this
        by_cases h2 : number p.names p.rungs[i].name < 0
        · rw [if_pos h2] at this; cases this
        rw [if_neg h2] at this
        by_cases h3 : kindAt p.names (number p.names p.rungs[i].name) ≠ kindOf p.rungs[i].kind
        · rw [if_pos h3] at this; cases this
        rw [if_neg h3] at this
        by_cases h4 : known p.names x = true
        · refine ⟨by omega, by omega, hnum _ (by omega), x, rfl, fun n hn => hnum n ?_⟩
          unfold known at h4
          rw [List.all_eq_true] at h4
          simpa using h4 n hn
        · rw [if_neg h4] at this; cases this
theorem itoa_small (c : Int) (h : 1 ≤ c ∧ c ≤ 7) : rdCount (Lib.itoa c) = some c ∧ (32 : UInt8) ∉ Lib.itoa c ∧ (10 : UInt8) ∉ Lib.itoa c ∧ (61 : UInt8) ∉ Lib.itoa c ∧ Lib.itoa c ≠ [] := by
  have e : Lib.itoa c = [(48 + c.toNat).toUInt8] := by
    rw [Lib.itoa, if_neg (by omega), Lib.decDigits, dif_pos (by omega)]
  have hc : c = 1 ∨ c = 2 ∨ c = 3 ∨ c = 4 ∨ c = 5 ∨ c = 6 ∨ c = 7 := by omega
  rcases hc with rfl | rfl | rfl | rfl | rfl | rfl | rfl
  all_goals
    refine ⟨?_, by rw [e]; decide, by rw [e]; decide, by rw [e]; decide, by rw [e]; decide⟩
    unfold rdCount
    rw [e]
    have ha : ∀ (u : UInt8) (n : Nat), Lib.atoiAll [u] = .ok (n : Int) → Lib.itoa (n : Int) = [u] → (match Lib.atoiAll [u] with | .ok v => if Lib.itoa v = [u] then some v else none | _ => none) = some (n : Int) := by
      intro u n h1 h2; rw [h1]; simp [h2]
    exact ha _ _ (by decide) e
theorem kind4 (k : Int) (h : 1 ≤ k ∧ k ≤ 4) : k = 1 ∨ k = 2 ∨ k = 3 ∨ k = 4 := by omega
theorem kind6 (k : Int) (h : 1 ≤ k ∧ k ≤ 6) : k = 1 ∨ k = 2 ∨ k = 3 ∨ k = 4 ∨ k = 5 ∨ k = 6 := by omega
theorem cutE_none (l : List UInt8) (h : (61 : UInt8) ∉ l) : cutE l = none := by unfold cutE; rw [if_neg]; simpa using h
theorem cutE_at (a r : List UInt8) (h : (61 : UInt8) ∉ a) : cutE (a ++ 61 :: r) = some (a, r) := by
  unfold cutE
  rw [if_pos (by simp)]
  have h1 : ∀ c, c ∈ a → (c != 61) = true := fun c hc => by rw [bne_iff_ne]; intro e; exact h (e ▸ hc)
  rw [List.takeWhile_append_of_pos h1, List.dropWhile_append_of_pos h1]
  simp
/-- what a name's line tells -/
theorem name_line (n : Nme) (h1 : Nm.name n.name = true) (h2 : 1 ≤ n.kind) (h3 : n.kind ≤ 4) (h4 : mayCount n.kind n.count = true) :
    (10 : UInt8) ∉ nameT n ∧ isBlank (nameT n) = false ∧ cutE (nameT n) = none ∧ rdName (words (nameT n)) = some n := by
  have a32 := name_no n.name h1 32 (by decide)
  have a10 := name_no n.name h1 10 (by decide)
  have a61 := name_no n.name h1 61 (by decide)
  have ane := name_ne n.name h1
  obtain ⟨nm, k, c⟩ := n
  simp only at *
  have plain : ∀ (j : Nat), nameW j ≠ [] → (32 : UInt8) ∉ nameW j → words (nameW j ++ [32] ++ nm ++ []) = [nameW j, nm] := by
    intro j hj h32
    rw [List.append_nil, List.append_assoc, List.singleton_append, words_cons _ _ h32 hj, words_one nm a32 ane]
  have more : ∀ (j : Nat), nameW j ≠ [] → (32 : UInt8) ∉ nameW j → (32 : UInt8) ∉ Lib.itoa c → Lib.itoa c ≠ [] → words (nameW j ++ [32] ++ nm ++ 32 :: Lib.itoa c) = [nameW j, nm, Lib.itoa c] := by
    intro j hj h32 hc hn
    have e : nameW j ++ [32] ++ nm ++ 32 :: Lib.itoa c = nameW j ++ 32 :: (nm ++ 32 :: Lib.itoa c) := by simp
    rw [e, words_cons _ _ h32 hj, words_cons _ _ a32 ane, words_one _ hc hn]
  rcases kind4 k ⟨h2, h3⟩ with rfl | rfl | rfl | rfl
  · have hc : c = 0 := by simpa [mayCount, counted] using h4
    subst hc
    have e : nameT ⟨nm, 1, 0⟩ = nameW 1 ++ [32] ++ nm ++ [] := rfl
    rw [e, plain 1 (by decide) (by decide)]
    refine ⟨by simp [nameW, a10], by simp [nameW, isBlank], cutE_none _ (by simp [nameW, a61]), by simp [rdName, kindN]⟩
  · have hc : c = 0 := by simpa [mayCount, counted] using h4
    subst hc
    have e : nameT ⟨nm, 2, 0⟩ = nameW 2 ++ [32] ++ nm ++ [] := rfl
    rw [e, plain 2 (by decide) (by decide)]
    refine ⟨by simp [nameW, a10], by simp [nameW, isBlank], cutE_none _ (by simp [nameW, a61]), ?_⟩
    have : kindN (nameW 2) = 2 := by decide
    simp [rdName, this]
  · have hc : 1 ≤ c ∧ c ≤ 7 := by simpa [mayCount, counted] using h4
    obtain ⟨r1, r2, r3, r4, r5⟩ := itoa_small c hc
    have e : nameT ⟨nm, 3, c⟩ = nameW 3 ++ [32] ++ nm ++ 32 :: Lib.itoa c := rfl
    rw [e, more 3 (by decide) (by decide) r2 r5]
    refine ⟨by simp [nameW, a10, r3], by simp [nameW, isBlank], cutE_none _ (by simp [nameW, a61, r4]), ?_⟩
    have : kindN (nameW 3) = 3 := by decide
    simp [rdName, this, r1]
  · have hc : 1 ≤ c ∧ c ≤ 7 := by simpa [mayCount, counted] using h4
    obtain ⟨r1, r2, r3, r4, r5⟩ := itoa_small c hc
    have e : nameT ⟨nm, 4, c⟩ = nameW 4 ++ [32] ++ nm ++ 32 :: Lib.itoa c := rfl
    rw [e, more 4 (by decide) (by decide) r2 r5]
    refine ⟨by simp [nameW, a10, r3], by simp [nameW, isBlank], cutE_none _ (by simp [nameW, a61, r4]), ?_⟩
    have : kindN (nameW 4) = 4 := by decide
    simp [rdName, this, r1]
/-- what a rung's line tells -/
theorem rung_line (r : Rng) (x : Ex) (hx : r.cond = some x) (h1 : Nm.name r.name = true) (h2 : 1 ≤ r.kind) (h3 : r.kind ≤ 6) (h4 : ∀ n, n ∈ x.named true → Nm.name n = true) :
    (10 : UInt8) ∉ rungT r ∧ isBlank (rungT r) = false ∧ cutE (rungT r) = some (headT r, 32 :: x.text) ∧ rdHead (words (headT r)) = some (r.kind.toNat, r.name) := by
  have a32 := name_no r.name h1 32 (by decide)
  have a10 := name_no r.name h1 10 (by decide)
  have a61 := name_no r.name h1 61 (by decide)
  have ane := name_ne r.name h1
  have x10 : (10 : UInt8) ∉ x.text := by
    intro hc
    rcases Ex.text_bytes x 10 hc with h | ⟨n, hn, hcn⟩
    · revert h; decide
    · exact name_no n (h4 n hn) 10 (by decide) hcn
  obtain ⟨k, nm, cond⟩ := r
  simp only at *
  subst hx
  have hT : rungT ⟨k, nm, some x⟩ = headT ⟨k, nm, some x⟩ ++ 61 :: (32 :: x.text) := by simp [rungT, condT]
  have nb : ∀ (a b : List UInt8), isBlank (a ++ 61 :: b) = false := fun a b => by simp [isBlank]
  have fin : ∀ (H : List UInt8), headT ⟨k, nm, some x⟩ = H → (10 : UInt8) ∉ H → (61 : UInt8) ∉ H → rdHead (words H) = some (k.toNat, nm) → (10 : UInt8) ∉ rungT ⟨k, nm, some x⟩ ∧ isBlank (rungT ⟨k, nm, some x⟩) = false ∧ cutE (rungT ⟨k, nm, some x⟩) = some (headT ⟨k, nm, some x⟩, 32 :: x.text) ∧ rdHead (words (headT ⟨k, nm, some x⟩)) = some (k.toNat, nm) := by
    intro H e q1 q2 q3
    rw [hT, e]
    exact ⟨by simp [q1, x10], nb _ _, cutE_at _ _ q2, q3⟩
  have first : words (nm ++ [32]) = [nm] := by rw [words_cons _ _ a32 ane, words_nil]
  have more : ∀ (j : Nat), rungW j ≠ [] → (32 : UInt8) ∉ rungW j → words (rungW j ++ [32] ++ nm ++ [32]) = [rungW j, nm] := by
    intro j hj h32
    have e : rungW j ++ [32] ++ nm ++ [32] = rungW j ++ 32 :: (nm ++ [32]) := by simp
    rw [e, words_cons _ _ h32 hj, first]
  rcases kind6 k ⟨h2, h3⟩ with rfl | rfl | rfl | rfl | rfl | rfl
  · exact fin (nm ++ [32]) (by simp [headT]) (by simp [a10]) (by simp [a61]) (by rw [first]; rfl)
  · exact fin (rungW 2 ++ [32] ++ nm ++ [32]) rfl (by simp [rungW, a10]) (by simp [rungW, a61]) (by rw [more 2 (by decide) (by decide)]; rfl)
  · exact fin (rungW 3 ++ [32] ++ nm ++ [32]) rfl (by simp [rungW, a10]) (by simp [rungW, a61]) (by rw [more 3 (by decide) (by decide)]; rfl)
  · exact fin (rungW 4 ++ [32] ++ nm ++ [32]) rfl (by simp [rungW, a10]) (by simp [rungW, a61]) (by rw [more 4 (by decide) (by decide)]; rfl)
  · exact fin (rungW 5 ++ [32] ++ nm ++ [32]) rfl (by simp [rungW, a10]) (by simp [rungW, a61]) (by rw [more 5 (by decide) (by decide)]; rfl)
  · exact fin (rungW 6 ++ [32] ++ nm ++ [32]) rfl (by simp [rungW, a10]) (by simp [rungW, a61]) (by rw [more 6 (by decide) (by decide)]; rfl)
theorem placed_append (a b : List (List UInt8)) : ∀ i, ∃ j, placed i (a ++ b) = placed i a ++ placed j b := by
  induction a with
  | nil => intro i; exact ⟨i, rfl⟩
  | cons x r ih =>
    intro i
    obtain ⟨j, hj⟩ := ih (i + x.length + 1)
    exact ⟨j, by rw [List.cons_append, placed, placed, hj]; rfl⟩
theorem takes_names (ns : List Nme) (h : ∀ n, n ∈ ns → Nm.name n.name = true ∧ 1 ≤ n.kind ∧ n.kind ≤ 4 ∧ mayCount n.kind n.count = true) : ∀ (acc : List Nme) (ss : List Nat) (i : Nat) (rest : List (Nat × List UInt8)),
    ∃ ss', takes ⟨acc, [], ss⟩ (placed i (ns.map nameT) ++ rest) = takes ⟨acc ++ ns, [], ss'⟩ rest := by
  induction ns with
  | nil => intro acc ss i rest; exact ⟨ss, by simp [placed]⟩
  | cons n r ih =>
    intro acc ss i rest
    obtain ⟨q1, q2, q3, q4⟩ := h n (by simp)
    obtain ⟨_, _, l3, l4⟩ := name_line n q1 q2 q3 q4
    obtain ⟨ss', hs⟩ := ih (fun m hm => h m (by simp [hm])) (acc ++ [n]) (ss ++ [i]) (i + (nameT n).length + 1) rest
    refine ⟨ss', ?_⟩
    rw [List.map_cons, placed, List.cons_append, takes]
    have e : take ⟨acc, [], ss⟩ i (nameT n) = .inr ⟨acc ++ [n], [], ss ++ [i]⟩ := by
      unfold take; rw [l3]; simp only; rw [l4]; simp
    rw [e]
    simp only
    rw [hs, List.append_assoc]; rfl
theorem takes_rungs (rs : List Rng) (h : ∀ r, r ∈ rs → 1 ≤ r.kind ∧ r.kind ≤ 6 ∧ Nm.name r.name = true ∧ ∃ x, r.cond = some x ∧ (∀ n, n ∈ x.named true → Nm.name n = true) ∧ Ex.parse (32 :: x.text) = .inr x) : ∀ (ns : List Nme) (acc : List Rng) (ss : List Nat) (i : Nat),
    ∃ ss', takes ⟨ns, acc, ss⟩ (placed i (rs.map rungT)) = .inr ⟨ns, acc ++ rs, ss'⟩ := by
  induction rs with
  | nil => intro ns acc ss i; exact ⟨ss, by simp [placed, takes]⟩
  | cons r t ih =>
    intro ns acc ss i
    obtain ⟨q1, q2, q3, x, q4, q5, q6⟩ := h r (by simp)
    obtain ⟨_, _, l3, l4⟩ := rung_line r x q4 q3 q1 q2 q5
    obtain ⟨ss', hs⟩ := ih (fun m hm => h m (by simp [hm])) ns (acc ++ [r]) (ss ++ [i]) (i + (rungT r).length + 1)
    refine ⟨ss', ?_⟩
    rw [List.map_cons, placed, takes]
    have e : take ⟨ns, acc, ss⟩ i (rungT r) = .inr ⟨ns, acc ++ [r], ss ++ [i]⟩ := by
      unfold take; rw [l3]; simp only; rw [l4]; simp only; rw [q6]
      simp only
      have hk : ((r.kind.toNat : Nat) : Int) = r.kind := by omega
      rw [hk, ← q4]
    rw [e]
    simp only
    rw [hs, List.append_assoc]; rfl
/-- WHAT A PROGRAM's TEXT TELLS IS THAT PROGRAM AGAIN -/
theorem parse_text (p : Prg) (h : check p = none) (hx : ∀ r, r ∈ p.rungs → ∀ x, r.cond = some x → ∃ l, Ex.parse l = .inr x) (hl : (text p).length ≤ 20000) (ht : ∀ r, r ∈ p.rungs → (condT r.cond).length ≤ 1999) : parse (text p) = .inr p := by
  obtain ⟨_, _, hn, hr⟩ := check_names p h
  have hr' : ∀ r, r ∈ p.rungs → 1 ≤ r.kind ∧ r.kind ≤ 6 ∧ Nm.name r.name = true ∧ ∃ x, r.cond = some x ∧ (∀ n, n ∈ x.named true → Nm.name n = true) ∧ Ex.parse (32 :: x.text) = .inr x := by
    intro r hm
    obtain ⟨q1, q2, q3, x, q4, q5⟩ := hr r hm
    obtain ⟨l, hpl⟩ := hx r hm x q4
    have := ht r hm
    rw [q4] at this
    exact ⟨q1, q2, q3, x, q4, q5, Ex.parse_back_blank l x hpl this⟩
  unfold parse
  rw [if_neg (by omega)]
  have e : text p = ended (linesT p) := by unfold text; rw [if_pos h]
  have hlines : ∀ a, a ∈ linesT p → (10 : UInt8) ∉ a ∧ isBlank a = false := by
    intro a ha
    unfold linesT at ha
    rw [List.mem_append, List.mem_map, List.mem_map] at ha
    rcases ha with ⟨n, hm, rfl⟩ | ⟨r, hm, rfl⟩
    · obtain ⟨q1, q2, q3, q4⟩ := hn n hm
      have := name_line n q1 q2 q3 q4
      exact ⟨this.1, this.2.1⟩
    · obtain ⟨q1, q2, q3, x, q4, q5, _⟩ := hr' r hm
      have := rung_line r x q4 q3 q1 q2 q5
      exact ⟨this.1, this.2.1⟩
  rw [e, lns_ended _ (fun a ha => (hlines a ha).1) (fun a ha => (hlines a ha).2)]
  unfold linesT
  obtain ⟨j, hj⟩ := placed_append (p.names.map nameT) (p.rungs.map rungT) 0
  rw [hj]
  obtain ⟨s1, h1⟩ := takes_names p.names hn [] [] 0 (placed j (p.rungs.map rungT))
  rw [h1]
  obtain ⟨s2, h2⟩ := takes_rungs p.rungs hr' ([] ++ p.names) [] s1 j
  rw [h2]
  simp only [List.nil_append]
  unfold checked
  have e2 : check ⟨p.names, p.rungs⟩ = none := h
  simp only [e2]
end Ld
end Go.Proofs.YtkpfahbodlfpiaaGreatDoor
