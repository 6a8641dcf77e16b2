/-
  Plain mathematics of chapter 2: what a program's text tells is that program again. A law of our own for 'for .. := range f': the iterator may keep cells of its own ('X': which blocks those are, told by how many blocks lie where it begins); the body keeps them. The walk of strings.SplitSeq's iterator, at one byte: the pieces between these bytes, one by one. The walk of package ladder's words.
-/
import Derived.Test.YtgldbliohpfljaaGreatDoorRtParseAll
import Derived.RangeFuncNested
import Derived.RangeFuncBound
import Derived.RangeFuncCalls
import Derived.RangeFuncLeaves
import Derived.Shelf.Abstract
import Derived.Shelf.RegionOpen
import Derived.WalkKit
import Derived.OwnWalkIn
import Derived.TacticsInMore
import Derived.LoopNIn
import Derived.LoopIn
import Derived.Test.YtgldbliohpfljaaGreatDoorShelf
import Derived.Test.YtgldbliohpfljaaGreatDoorLdRepAll
import Derived.Test.YtgldbliohpfljaaGreatDoorLdCheckAll
import Derived.RangeFuncBox
import Derived.Maps.AppendAt
namespace Go.Proofs.YtgldbliohpfljaaGreatDoor
section
namespace Ex
/-- the blank ahead of an expression is passed over -/
theorem parse_back_blank (l : List UInt8) (x : Ex) (h : parse l = .inr x) (hlen : x.text.length ≤ 1999) : parse (32 :: x.text) = .inr x := by
  have hf := parse_fit l x h
  have hW := whole_back (32 :: x.text) 20 (piece_back (32 :: x.text) 20) x hf
  obtain ⟨c, r, hc, hc32⟩ := hW.2
  have hsk : skip (32 :: x.text) 0 = ([32] : List UInt8).length := by
    rw [skip_blank (32 :: x.text) 0 (by simp) (by simp)]
    have := skip_append [32] x.text 0
    simp only [List.length_singleton, Nat.add_zero, List.singleton_append] at this
    rw [this, hc, skip_cons c r hc32]; rfl
  obtain ⟨m, hm, hml, hms⟩ := hW.1 [32] [] 0 (by simp) ⟨by simp [Stop, sg, ends], by simp [nxt, sg, skip], by simp [nxt, sg, skip]⟩ (Nat.zero_le _) hsk
  unfold parse
  rw [if_neg (by simp; omega), hm]
  simp only
  rw [hms]
  have : skip (32 :: x.text) (([32] : List UInt8).length + x.text.length) = (32 :: x.text).length := by rw [skip_end]; all_goals (simp; try omega)
  rw [this, if_neg (by omega)]
theorem mem_join (sep : List UInt8) (c : UInt8) : ∀ l : List (List UInt8), c ∈ join sep l → c ∈ sep ∨ ∃ a, a ∈ l ∧ c ∈ a
  | [], h => by simp [join] at h
  | [a], h => .inr ⟨a, by simp, by simpa [join] using h⟩
  | a :: b :: r, h => by
    rw [join_two, List.mem_append, List.mem_append] at h
    rcases h with (h | h) | h
    · exact .inr ⟨a, by simp, h⟩
    · exact .inl h
    · rcases mem_join sep c (b :: r) h with h | ⟨q, hq, hc⟩
      · exact .inl h
      · exact .inr ⟨q, by simp [List.mem_cons] at hq ⊢; exact .inr hq, hc⟩
theorem mem_par (b : Bool) (l : List UInt8) (c : UInt8) (h : c ∈ par b l) : c = 40 ∨ c = 41 ∨ c ∈ l := by
  cases b with
  | false => exact .inr (.inr h)
  | true =>
    simp only [par, if_true, List.mem_cons, List.mem_append, List.not_mem_nil, or_false] at h
    rcases h with h | h | h
    · exact .inl h
    · exact .inr (.inr h)
    · exact .inr (.inl h)
/-- the bytes of a text are those of its names, or one of few signs -/
theorem text_bytes (x : Ex) : ∀ c, c ∈ x.text → c ∈ [48, 49, 94, 126, 33, 40, 41, 32, 38, (124 : UInt8)] ∨ ∃ n, n ∈ x.named true ∧ c ∈ n := by
  induction x using Ex.ind with
  | h k nm l ih =>
    intro c hc
    have sub : ∀ (y : Ex), y ∈ l → (k ≠ 2 ∧ k ≠ 3 ∧ k ≠ 4) → c ∈ y.text → c ∈ [48, 49, 94, 126, 33, 40, 41, 32, 38, (124 : UInt8)] ∨ ∃ n, n ∈ named true ⟨k, nm, l⟩ ∧ c ∈ n := by
      intro y hy hk h
      rcases ih y hy c h with h | ⟨n, hn, hcn⟩
      · exact .inl h
      · refine .inr ⟨n, ?_, hcn⟩
        rw [named_of _ _ _ _ hk, List.mem_flatten]
        exact ⟨_, List.mem_map_of_mem hy, hn⟩
    have list : ∀ (s : UInt8) (t : Nat), s ∈ [38, (124 : UInt8)] → (k ≠ 2 ∧ k ≠ 3 ∧ k ≠ 4) → c ∈ join [32, s, 32] (l.map fun x => par (decide (t ≤ x.kind)) x.text) → c ∈ [48, 49, 94, 126, 33, 40, 41, 32, 38, (124 : UInt8)] ∨ ∃ n, n ∈ named true ⟨k, nm, l⟩ ∧ c ∈ n := by
      intro s t hs hk h
      rcases mem_join _ _ _ h with h | ⟨a, ha, hca⟩
      · left
        simp only [List.mem_cons, List.not_mem_nil, or_false] at h hs ⊢
        rcases h with h | h | h
        · simp [h]
        · rcases hs with hs | hs <;> simp [h, hs]
        · simp [h]
      · rw [List.mem_map] at ha
        obtain ⟨y, hy, rfl⟩ := ha
        rcases mem_par _ _ _ hca with h | h | h
        · left; simp [h]
        · left; simp [h]
        · exact sub y hy hk h
    match k, hc, sub, list with
    | 0, hc, _, _ => simp [text] at hc; left; simp [hc]
    | 1, hc, _, _ => simp [text] at hc; left; simp [hc]
    | 2, hc, _, _ => right; exact ⟨nm, by rw [named2]; simp, by simpa [text] using hc⟩
    | 3, hc, _, _ =>
      simp only [text, List.mem_cons] at hc
      rcases hc with h | h
      · left; simp [h]
      · right; exact ⟨nm, by rw [named3]; simp, h⟩
    | 4, hc, _, _ =>
      simp only [text, List.mem_cons] at hc
      rcases hc with h | h
      · left; simp [h]
      · right; exact ⟨nm, by rw [named4]; simp, h⟩
    | 5, hc, sub, _ =>
      simp only [text, List.mem_cons] at hc
      rcases hc with h | h
      · left; simp [h]
      · rw [List.mem_flatten] at h
        obtain ⟨a, ha, hca⟩ := h
        rw [List.mem_map] at ha
        obtain ⟨y, hy, rfl⟩ := ha
        rcases mem_par _ _ _ hca with h | h | h
        · left; simp [h]
        · left; simp [h]
        · exact sub y hy (by decide) h
    | 6, hc, _, list => rw [text6] at hc; exact list 38 6 (by simp) (by decide) hc
    | k + 7, hc, _, list =>
      have e : text ⟨k + 7, nm, l⟩ = join [32, 124, 32] (l.map fun x => par (decide (7 ≤ x.kind)) x.text) := by simp [text]
      rw [e] at hc
      exact list 124 7 (by simp) ⟨by omega, by omega, by omega⟩ hc
end Ex
namespace Ld
theorem split_ne (c : UInt8) (l : List UInt8) : split c l ≠ [] := by
  cases l with
  | nil => simp [split]
  | cons a r =>
    unfold split
    by_cases h : a = c
    · simp [h]
    · rw [if_neg h]
      cases split c r with
      | nil => simp
      | cons x y => simp
theorem split_none (c : UInt8) (a : List UInt8) (h : c ∉ a) : split c a = [a] := by
  induction a with
  | nil => rfl
  | cons x r ih =>
    have h1 : x ≠ c := fun e => h (by simp [e])
    rw [split, if_neg h1, ih (fun e => h (by simp [e]))]
theorem split_at (c : UInt8) (a r : List UInt8) (h : c ∉ a) : split c (a ++ c :: r) = a :: split c r := by
  induction a with
  | nil => simp [split]
  | cons x t ih =>
    have h1 : x ≠ c := fun e => h (by simp [e])
    rw [List.cons_append, split, if_neg h1, ih (fun e => h (by simp [e]))]
theorem split_ended (ls : List (List UInt8)) (h : ∀ a, a ∈ ls → (10 : UInt8) ∉ a) : split 10 (ended ls) = ls ++ [[]] := by
  induction ls with
  | nil => rfl
  | cons a r ih =>
    have e : ended (a :: r) = a ++ 10 :: ended r := by simp [ended]
    rw [e, split_at 10 a _ (h a (by simp)), ih fun b hb => h b (by simp [hb])]; rfl
theorem words_one (a : List UInt8) (h : (32 : UInt8) ∉ a) (hne : a ≠ []) : words a = [a] := by
  unfold words
  rw [split_none 32 a h]
  cases a with
  | nil => exact absurd rfl hne
  | cons x y => rfl
theorem words_cons (a r : List UInt8) (h : (32 : UInt8) ∉ a) (hne : a ≠ []) : words (a ++ 32 :: r) = a :: words r := by
  unfold words
  rw [split_at 32 a r h]
  cases a with
  | nil => exact absurd rfl hne
  | cons x y => rfl
theorem words_nil : words [] = [] := rfl
/-- the lines of a program's text, each with its place -/
theorem lns_ended (ls : List (List UInt8)) (h : ∀ a, a ∈ ls → (10 : UInt8) ∉ a) (hb : ∀ a, a ∈ ls → isBlank a = false) : lns (ended ls) = placed 0 ls := by
  unfold lns
  rw [split_ended ls h]
  have key : ∀ (ls : List (List UInt8)) (i : Nat), (∀ a, a ∈ ls → isBlank a = false) → (placed i (ls ++ [[]])).filter (fun p => !isBlank p.2) = placed i ls := by
    intro ls
    induction ls with
    | nil => intro i _; rfl
    | cons a r ih =>
      intro i hb
      rw [List.cons_append, placed, placed, List.filter_cons_of_pos (by simp [hb a (by simp)]), ih _ fun b hb' => hb b (by simp [hb'])]
  exact key ls 0 hb
/-- what a name's bytes are -/
theorem name_byte (n : List UInt8) (h : Nm.name n = true) (c : UInt8) (hc : c ∈ n) : (48 ≤ c.toNat ∧ c.toNat ≤ 57) ∨ c.toNat = 95 ∨ (97 ≤ c.toNat ∧ c.toNat ≤ 122) := by
  unfold Nm.name at h
  simp only [Bool.and_eq_true] at h
  have h1 := h.1.2
  unfold Nm.upto at h1
  rw [List.take_length, List.all_eq_true] at h1
  have := h1 c hc
  simp only [Nm.nm, Nm.lo, Nm.di, Bool.or_eq_true, Bool.and_eq_true, decide_eq_true_eq, beq_iff_eq] at this
  omega
theorem name_ne (n : List UInt8) (h : Nm.name n = true) : n ≠ [] := by
  intro e; subst e; simp [Nm.name] at h
theorem name_no (n : List UInt8) (h : Nm.name n = true) (b : UInt8) (hb : b.toNat < 48 ∨ b.toNat = 61) : b ∉ n := by
  intro hc
  have := name_byte n h b hc
  omega
/-- what check says of names and rungs -/
theorem check_names (p : Prg) (h : check p = none) : p.names.length ≤ 12 ∧ p.rungs.length ≤ 40 ∧ (∀ n, n ∈ p.names → Nm.name n.name = true ∧ 1 ≤ n.kind ∧ n.kind ≤ 4 ∧ mayCount n.kind n.count = true) ∧
    ∀ r, r ∈ p.rungs → 1 ≤ r.kind ∧ r.kind ≤ 6 ∧ Nm.name r.name = true ∧ ∃ x, r.cond = some x ∧ ∀ n, n ∈ x.named true → Nm.name n = true := by
  unfold check at h
  by_cases hl : 12 < p.names.length ∨ 40 < p.rungs.length
  · rw [if_pos hl] at h; cases h
  rw [if_neg hl] at h
  cases hn : bad (nameAt p.names) p.names.length with
  | some r => rw [hn] at h; cases h
  | none =>
    rw [hn] at h
    simp only at h
    cases hr : bad (rungAt p) p.rungs.length with
    | some r => rw [hr] at h; cases h
    | none =>
      have hnames : ∀ n, n ∈ p.names → Nm.name n.name = true ∧ 1 ≤ n.kind ∧ n.kind ≤ 4 ∧ mayCount n.kind n.count = true := by
        intro n hm
        obtain ⟨i, hi, rfl⟩ := List.getElem_of_mem hm
        have := bad_none _ _ hn i hi
        rw [nameAt_at _ _ hi, wrongN] at this
        by_cases h1 : Nm.name p.names[i].name = false
        · rw [if_pos h1] at this; cases this
        rw [if_neg h1] at this
        by_cases h2 : p.names[i].kind < 1 ∨ 4 < p.names[i].kind
        · rw [if_pos h2] at this; cases this
        rw [if_neg h2] at this
        by_cases h3 : mayCount p.names[i].kind p.names[i].count = false
        · rw [if_pos h3] at this; cases this
        exact ⟨by simpa using h1, by omega, by omega, by simpa using h3⟩
      have hnum : ∀ s, 0 ≤ number p.names s → Nm.name s = true := by
        intro s hs
        rcases number_cases p.names s with ⟨h, _⟩ | ⟨k, hk, h, h2, _⟩
        · omega
        · rw [← h2]; exact (hnames _ (List.getElem_mem hk)).1
      refine ⟨by omega, by omega, hnames, ?_⟩
      intro r hm
      obtain ⟨i, hi, rfl⟩ := List.getElem_of_mem hm
      have := bad_none _ _ hr i hi
      rw [rungAt_at _ _ hi, wrongR] at this
      by_cases h1 : p.rungs[i].kind < 1 ∨ 6 < p.rungs[i].kind
      · rw [if_pos h1] at this; cases this
      rw [if_neg h1] at this
      cases hc : p.rungs[i].cond with
      | none => rw [hc] at this; cases this
      | some x =>
        rw [hc] at this
        simp only at this
        by_cases h2 : number p.names p.rungs[i].name < 0
        · rw [if_pos h2] at this; cases this
        rw [if_neg h2] at this
        by_cases h3 : kindAt p.names (number p.names p.rungs[i].name) ≠ kindOf p.rungs[i].kind
        · rw [if_pos h3] at this; cases this
        rw [if_neg h3] at this
        by_cases h4 : known p.names x = true
        · refine ⟨by omega, by omega, hnum _ (by omega), x, rfl, fun n hn => hnum n ?_⟩
          unfold known at h4
          rw [List.all_eq_true] at h4
          simpa using h4 n hn
        · rw [if_neg h4] at this; cases this
theorem itoa_small (c : Int) (h : 1 ≤ c ∧ c ≤ 7) : rdCount (Lib.itoa c) = some c ∧ (32 : UInt8) ∉ Lib.itoa c ∧ (10 : UInt8) ∉ Lib.itoa c ∧ (61 : UInt8) ∉ Lib.itoa c ∧ Lib.itoa c ≠ [] := by
  have e : Lib.itoa c = [(48 + c.toNat).toUInt8] := by
    rw [Lib.itoa, if_neg (by omega), Lib.decDigits, dif_pos (by omega)]
  have hc : c = 1 ∨ c = 2 ∨ c = 3 ∨ c = 4 ∨ c = 5 ∨ c = 6 ∨ c = 7 := by omega
  rcases hc with rfl | rfl | rfl | rfl | rfl | rfl | rfl
  all_goals
    refine ⟨?_, by rw [e]; decide, by rw [e]; decide, by rw [e]; decide, by rw [e]; decide⟩
    unfold rdCount
    rw [e]
    have ha : ∀ (u : UInt8) (n : Nat), Lib.atoiAll [u] = .ok (n : Int) → Lib.itoa (n : Int) = [u] → (match Lib.atoiAll [u] with | .ok v => if Lib.itoa v = [u] then some v else none | _ => none) = some (n : Int) := by
      intro u n h1 h2; rw [h1]; simp [h2]
    exact ha _ _ (by decide) e
theorem kind4 (k : Int) (h : 1 ≤ k ∧ k ≤ 4) : k = 1 ∨ k = 2 ∨ k = 3 ∨ k = 4 := by omega
theorem kind6 (k : Int) (h : 1 ≤ k ∧ k ≤ 6) : k = 1 ∨ k = 2 ∨ k = 3 ∨ k = 4 ∨ k = 5 ∨ k = 6 := by omega
theorem cutE_none (l : List UInt8) (h : (61 : UInt8) ∉ l) : cutE l = none := by unfold cutE; rw [if_neg]; simpa using h
theorem cutE_at (a r : List UInt8) (h : (61 : UInt8) ∉ a) : cutE (a ++ 61 :: r) = some (a, r) := by
  unfold cutE
  rw [if_pos (by simp)]
  have h1 : ∀ c, c ∈ a → (c != 61) = true := fun c hc => by rw [bne_iff_ne]; intro e; exact h (e ▸ hc)
  rw [List.takeWhile_append_of_pos h1, List.dropWhile_append_of_pos h1]
  simp
/-- what a name's line tells -/
theorem name_line (n : Nme) (h1 : Nm.name n.name = true) (h2 : 1 ≤ n.kind) (h3 : n.kind ≤ 4) (h4 : mayCount n.kind n.count = true) :
    (10 : UInt8) ∉ nameT n ∧ isBlank (nameT n) = false ∧ cutE (nameT n) = none ∧ rdName (words (nameT n)) = some n := by
  have a32 := name_no n.name h1 32 (by decide)
  have a10 := name_no n.name h1 10 (by decide)
  have a61 := name_no n.name h1 61 (by decide)
  have ane := name_ne n.name h1
  obtain ⟨nm, k, c⟩ := n
  simp only at *
  have plain : ∀ (j : Nat), nameW j ≠ [] → (32 : UInt8) ∉ nameW j → words (nameW j ++ [32] ++ nm ++ []) = [nameW j, nm] := by
    intro j hj h32
    rw [List.append_nil, List.append_assoc, List.singleton_append, words_cons _ _ h32 hj, words_one nm a32 ane]
  have more : ∀ (j : Nat), nameW j ≠ [] → (32 : UInt8) ∉ nameW j → (32 : UInt8) ∉ Lib.itoa c → Lib.itoa c ≠ [] → words (nameW j ++ [32] ++ nm ++ 32 :: Lib.itoa c) = [nameW j, nm, Lib.itoa c] := by
    intro j hj h32 hc hn
    have e : nameW j ++ [32] ++ nm ++ 32 :: Lib.itoa c = nameW j ++ 32 :: (nm ++ 32 :: Lib.itoa c) := by simp
    rw [e, words_cons _ _ h32 hj, words_cons _ _ a32 ane, words_one _ hc hn]
  rcases kind4 k ⟨h2, h3⟩ with rfl | rfl | rfl | rfl
  · have hc : c = 0 := by simpa [mayCount, counted] using h4
    subst hc
    have e : nameT ⟨nm, 1, 0⟩ = nameW 1 ++ [32] ++ nm ++ [] := rfl
    rw [e, plain 1 (by decide) (by decide)]
    refine ⟨by simp [nameW, a10], by simp [nameW, isBlank], cutE_none _ (by simp [nameW, a61]), by simp [rdName, kindN]⟩
  · have hc : c = 0 := by simpa [mayCount, counted] using h4
    subst hc
    have e : nameT ⟨nm, 2, 0⟩ = nameW 2 ++ [32] ++ nm ++ [] := rfl
    rw [e, plain 2 (by decide) (by decide)]
    refine ⟨by simp [nameW, a10], by simp [nameW, isBlank], cutE_none _ (by simp [nameW, a61]), ?_⟩
    have : kindN (nameW 2) = 2 := by decide
    simp [rdName, this]
  · have hc : 1 ≤ c ∧ c ≤ 7 := by simpa [mayCount, counted] using h4
    obtain ⟨r1, r2, r3, r4, r5⟩ := itoa_small c hc
    have e : nameT ⟨nm, 3, c⟩ = nameW 3 ++ [32] ++ nm ++ 32 :: Lib.itoa c := rfl
    rw [e, more 3 (by decide) (by decide) r2 r5]
    refine ⟨by simp [nameW, a10, r3], by simp [nameW, isBlank], cutE_none _ (by simp [nameW, a61, r4]), ?_⟩
    have : kindN (nameW 3) = 3 := by decide
    simp [rdName, this, r1]
  · have hc : 1 ≤ c ∧ c ≤ 7 := by simpa [mayCount, counted] using h4
    obtain ⟨r1, r2, r3, r4, r5⟩ := itoa_small c hc
    have e : nameT ⟨nm, 4, c⟩ = nameW 4 ++ [32] ++ nm ++ 32 :: Lib.itoa c := rfl
    rw [e, more 4 (by decide) (by decide) r2 r5]
    refine ⟨by simp [nameW, a10, r3], by simp [nameW, isBlank], cutE_none _ (by simp [nameW, a61, r4]), ?_⟩
    have : kindN (nameW 4) = 4 := by decide
    simp [rdName, this, r1]
/-- what a rung's line tells -/
theorem rung_line (r : Rng) (x : Ex) (hx : r.cond = some x) (h1 : Nm.name r.name = true) (h2 : 1 ≤ r.kind) (h3 : r.kind ≤ 6) (h4 : ∀ n, n ∈ x.named true → Nm.name n = true) :
    (10 : UInt8) ∉ rungT r ∧ isBlank (rungT r) = false ∧ cutE (rungT r) = some (headT r, 32 :: x.text) ∧ rdHead (words (headT r)) = some (r.kind.toNat, r.name) := by
  have a32 := name_no r.name h1 32 (by decide)
  have a10 := name_no r.name h1 10 (by decide)
  have a61 := name_no r.name h1 61 (by decide)
  have ane := name_ne r.name h1
  have x10 : (10 : UInt8) ∉ x.text := by
    intro hc
    rcases Ex.text_bytes x 10 hc with h | ⟨n, hn, hcn⟩
    · revert h; decide
    · exact name_no n (h4 n hn) 10 (by decide) hcn
  obtain ⟨k, nm, cond⟩ := r
  simp only at *
  subst hx
  have hT : rungT ⟨k, nm, some x⟩ = headT ⟨k, nm, some x⟩ ++ 61 :: (32 :: x.text) := by simp [rungT, condT]
  have nb : ∀ (a b : List UInt8), isBlank (a ++ 61 :: b) = false := fun a b => by simp [isBlank]
  have fin : ∀ (H : List UInt8), headT ⟨k, nm, some x⟩ = H → (10 : UInt8) ∉ H → (61 : UInt8) ∉ H → rdHead (words H) = some (k.toNat, nm) → (10 : UInt8) ∉ rungT ⟨k, nm, some x⟩ ∧ isBlank (rungT ⟨k, nm, some x⟩) = false ∧ cutE (rungT ⟨k, nm, some x⟩) = some (headT ⟨k, nm, some x⟩, 32 :: x.text) ∧ rdHead (words (headT ⟨k, nm, some x⟩)) = some (k.toNat, nm) := by
    intro H e q1 q2 q3
    rw [hT, e]
    exact ⟨by simp [q1, x10], nb _ _, cutE_at _ _ q2, q3⟩
  have first : words (nm ++ [32]) = [nm] := by rw [words_cons _ _ a32 ane, words_nil]
  have more : ∀ (j : Nat), rungW j ≠ [] → (32 : UInt8) ∉ rungW j → words (rungW j ++ [32] ++ nm ++ [32]) = [rungW j, nm] := by
    intro j hj h32
    have e : rungW j ++ [32] ++ nm ++ [32] = rungW j ++ 32 :: (nm ++ [32]) := by simp
    rw [e, words_cons _ _ h32 hj, first]
  rcases kind6 k ⟨h2, h3⟩ with rfl | rfl | rfl | rfl | rfl | rfl
  · exact fin (nm ++ [32]) (by simp [headT]) (by simp [a10]) (by simp [a61]) (by rw [first]; rfl)
  · exact fin (rungW 2 ++ [32] ++ nm ++ [32]) rfl (by simp [rungW, a10]) (by simp [rungW, a61]) (by rw [more 2 (by decide) (by decide)]; rfl)
  · exact fin (rungW 3 ++ [32] ++ nm ++ [32]) rfl (by simp [rungW, a10]) (by simp [rungW, a61]) (by rw [more 3 (by decide) (by decide)]; rfl)
  · exact fin (rungW 4 ++ [32] ++ nm ++ [32]) rfl (by simp [rungW, a10]) (by simp [rungW, a61]) (by rw [more 4 (by decide) (by decide)]; rfl)
  · exact fin (rungW 5 ++ [32] ++ nm ++ [32]) rfl (by simp [rungW, a10]) (by simp [rungW, a61]) (by rw [more 5 (by decide) (by decide)]; rfl)
  · exact fin (rungW 6 ++ [32] ++ nm ++ [32]) rfl (by simp [rungW, a10]) (by simp [rungW, a61]) (by rw [more 6 (by decide) (by decide)]; rfl)
theorem placed_append (a b : List (List UInt8)) : ∀ i, ∃ j, placed i (a ++ b) = placed i a ++ placed j b := by
  induction a with
  | nil => intro i; exact ⟨i, rfl⟩
  | cons x r ih =>
    intro i
    obtain ⟨j, hj⟩ := ih (i + x.length + 1)
    exact ⟨j, by rw [List.cons_append, placed, placed, hj]; rfl⟩
theorem takes_names (ns : List Nme) (h : ∀ n, n ∈ ns → Nm.name n.name = true ∧ 1 ≤ n.kind ∧ n.kind ≤ 4 ∧ mayCount n.kind n.count = true) : ∀ (acc : List Nme) (ss : List Nat) (i : Nat) (rest : List (Nat × List UInt8)),
    ∃ ss', takes ⟨acc, [], ss⟩ (placed i (ns.map nameT) ++ rest) = takes ⟨acc ++ ns, [], ss'⟩ rest := by
  induction ns with
  | nil => intro acc ss i rest; exact ⟨ss, by simp [placed]⟩
  | cons n r ih =>
    intro acc ss i rest
    obtain ⟨q1, q2, q3, q4⟩ := h n (by simp)
    obtain ⟨_, _, l3, l4⟩ := name_line n q1 q2 q3 q4
    obtain ⟨ss', hs⟩ := ih (fun m hm => h m (by simp [hm])) (acc ++ [n]) (ss ++ [i]) (i + (nameT n).length + 1) rest
    refine ⟨ss', ?_⟩
    rw [List.map_cons, placed, List.cons_append, takes]
    have e : take ⟨acc, [], ss⟩ i (nameT n) = .inr ⟨acc ++ [n], [], ss ++ [i]⟩ := by
      unfold take; rw [l3]; simp only; rw [l4]; simp
    rw [e]
    simp only
    rw [hs, List.append_assoc]; rfl
theorem takes_rungs (rs : List Rng) (h : ∀ r, r ∈ rs → 1 ≤ r.kind ∧ r.kind ≤ 6 ∧ Nm.name r.name = true ∧ ∃ x, r.cond = some x ∧ (∀ n, n ∈ x.named true → Nm.name n = true) ∧ Ex.parse (32 :: x.text) = .inr x) : ∀ (ns : List Nme) (acc : List Rng) (ss : List Nat) (i : Nat),
    ∃ ss', takes ⟨ns, acc, ss⟩ (placed i (rs.map rungT)) = .inr ⟨ns, acc ++ rs, ss'⟩ := by
  induction rs with
  | nil => intro ns acc ss i; exact ⟨ss, by simp [placed, takes]⟩
  | cons r t ih =>
    intro ns acc ss i
    obtain ⟨q1, q2, q3, x, q4, q5, q6⟩ := h r (by simp)
    obtain ⟨_, _, l3, l4⟩ := rung_line r x q4 q3 q1 q2 q5
    obtain ⟨ss', hs⟩ := ih (fun m hm => h m (by simp [hm])) ns (acc ++ [r]) (ss ++ [i]) (i + (rungT r).length + 1)
    refine ⟨ss', ?_⟩
    rw [List.map_cons, placed, takes]
    have e : take ⟨ns, acc, ss⟩ i (rungT r) = .inr ⟨ns, acc ++ [r], ss ++ [i]⟩ := by
      unfold take; rw [l3]; simp only; rw [l4]; simp only; rw [q6]
      simp only
      have hk : ((r.kind.toNat : Nat) : Int) = r.kind := by omega
      rw [hk, ← q4]
    rw [e]
    simp only
    rw [hs, List.append_assoc]; rfl
/-- WHAT A PROGRAM's TEXT TELLS IS THAT PROGRAM AGAIN -/
theorem parse_text (p : Prg) (h : check p = none) (hx : ∀ r, r ∈ p.rungs → ∀ x, r.cond = some x → ∃ l, Ex.parse l = .inr x) (hl : (text p).length ≤ 20000) (ht : ∀ r, r ∈ p.rungs → (condT r.cond).length ≤ 1999) : parse (text p) = .inr p := by
  obtain ⟨_, _, hn, hr⟩ := check_names p h
  have hr' : ∀ r, r ∈ p.rungs → 1 ≤ r.kind ∧ r.kind ≤ 6 ∧ Nm.name r.name = true ∧ ∃ x, r.cond = some x ∧ (∀ n, n ∈ x.named true → Nm.name n = true) ∧ Ex.parse (32 :: x.text) = .inr x := by
    intro r hm
    obtain ⟨q1, q2, q3, x, q4, q5⟩ := hr r hm
    obtain ⟨l, hpl⟩ := hx r hm x q4
    have := ht r hm
    rw [q4] at this
    exact ⟨q1, q2, q3, x, q4, q5, Ex.parse_back_blank l x hpl this⟩
  unfold parse
  rw [if_neg (by omega)]
  have e : text p = ended (linesT p) := by unfold text; rw [if_pos h]
  have hlines : ∀ a, a ∈ linesT p → (10 : UInt8) ∉ a ∧ isBlank a = false := by
    intro a ha
    unfold linesT at ha
    rw [List.mem_append, List.mem_map, List.mem_map] at ha
    rcases ha with ⟨n, hm, rfl⟩ | ⟨r, hm, rfl⟩
    · obtain ⟨q1, q2, q3, q4⟩ := hn n hm
      have := name_line n q1 q2 q3 q4
      exact ⟨this.1, this.2.1⟩
    · obtain ⟨q1, q2, q3, x, q4, q5, _⟩ := hr' r hm
      have := rung_line r x q4 q3 q1 q2 q5
      exact ⟨this.1, this.2.1⟩
  rw [e, lns_ended _ (fun a ha => (hlines a ha).1) (fun a ha => (hlines a ha).2)]
  unfold linesT
  obtain ⟨j, hj⟩ := placed_append (p.names.map nameT) (p.rungs.map rungT) 0
  rw [hj]
  obtain ⟨s1, h1⟩ := takes_names p.names hn [] [] 0 (placed j (p.rungs.map rungT))
  rw [h1]
  obtain ⟨s2, h2⟩ := takes_rungs p.rungs hr' ([] ++ p.names) [] s1 j
  rw [h2]
  simp only [List.nil_append]
  unfold checked
  have e2 : check ⟨p.names, p.rungs⟩ = none := h
  simp only [e2]
end Ld
end
section
open Go.RowKit
section
variable {α : Type} {P : Program}
/-- these blocks stand -/
def KeepX (X : Nat → Prop) (A B : World) : Prop := A.heap.size ≤ B.heap.size ∧ ∀ k, X k → B.heap[k]? = A.heap[k]?
/-- whatever is said stands though these blocks turn -/
def AbidesX (X : Nat → Prop) (J : List α → World → Prop) : Prop := ∀ s A B row, J s A → A.grownBy B row → (∀ r, row = some r → X r) → J s B
/-- an iterator: it hands these on, one by one, and turns no blocks but its own -/
def SeqX (P : Program) (gf : Nat) (lb : Array Value) (encs : α → Array Value) (X : Nat → Nat → Prop) (m : Nat) (S Sp : List α → Prop) (N : Nat) (w : World) : Prop :=
  ∀ (l : Nat) (J Jx : List α → World → Prop) (W : World), Below w.heap.size w W → AbidesX (X W.heap.size) J → AbidesX (X W.heap.size) Jx →
    (∀ pre x W1, J pre W1 → pre.length < N → W.heap.size + m ≤ W1.heap.size → YieldAt Fence.wide 0 P l (encs x) W1 fun e W' =>
      (e = .returned (.bool true) ∧ J (pre ++ [x]) W' ∧ KeepX (X W.heap.size) W1 W') ∨ (e = .returned (.bool false) ∧ Jx (pre ++ [x]) W' ∧ KeepX (X W.heap.size) W1 W')) →
    J [] W →
    Calls P gf (#[.func (.yield l) #[] #[]] ++ lb) W fun e W' => (∃ v, e = .returned v) ∧ ((∃ xs, S xs ∧ J xs W') ∨ ∃ pre, Sp pre ∧ Jx pre W')
theorem round_any {m m' : Nat} {l : Nat} {f : FuncId} {tmps : Array Value} {assign body : Code} {w : World} {R : Ending → World → Prop} (h : RoundIn Fence.wide m P l f tmps assign body w R) : RoundIn Fence.wide m' P l f tmps assign body w R :=
  ⟨h.1, fun c cs _ => h.2 c cs (room_wide _)⟩
theorem yield_any {m : Nat} (m' : Nat) {l : Nat} {args : Array Value} {W : World} {R : Ending → World → Prop} (h : YieldAt Fence.wide m P l args W R) : YieldAt Fence.wide m' P l args W R := by
  obtain ⟨fn, tmps, assign, body, hy, hR⟩ := h
  exact ⟨fn, tmps, assign, body, hy, round_any hR⟩
/-- how a round's body may be left: it goes on, or it returns -/
def BodyX (Y : Nat → Prop) (I Ix : List α → World → Prop) (xs : List α) (W : World) : Exit → Act → World → Prop
  | .normal, _, W' => KeepX Y W W' ∧ I xs W'
  | .ret, _, W' => KeepX Y W W' ∧ Ix xs W'
  | _, _, _ => False
/-- the blocks that turn between two rounds: the loop's two, and the iterator's -/
def TurnX (X : Nat → Nat → Prop) (n k : Nat) : Prop := k = n ∨ k = n + 1 ∨ X (n + 2) k
theorem range_law {g : Operand} {ps : Array Tmp} {assign body : Code} {Q : Exit → Act → World → Prop} {a : Act} {w : World} {n gf : Nat} {lb : Array Value} (hg : a.eval g = .func (.func gf) #[] lb) (eg : ∀ args w, (callFunc gf args).run P w = .ok (.enter gf args) w)
    {encs : α → Array Value} {X : Nat → Nat → Prop} {m N : Nat} {S Sp : List α → Prop} (hseq : SeqX P gf lb encs X m S Sp N w) (hX : ∀ k, X (w.heap.size + 2) k → k ≠ w.heap.size ∧ k ≠ w.heap.size + 1) (hps : ∀ x, (encs x).size = ps.size)
    (I Ix : List α → World → Prop) (hI : AbidesX (TurnX X w.heap.size) I) (hIx : AbidesX (TurnX X w.heap.size) Ix) (h0 : I [] w) (a₁ : α → Act)
    (hassign : ∀ (l : Nat) (x : α) (W : World) (K : Act → World → Prop), K (a₁ x) W →
      assign.wpIn (Fence.wide.inRound l) 0 P (Exit.then K (fun _ _ _ => False)) { tmps := (ps.zip (encs x)).foldl (fun t (p, v) => t.setIfInBounds p v) a.tmps, defers := [] } W)
    (hbody : ∀ (l : Nat) (pre : List α) (x : α) (W : World), w.heap.size + 2 + m ≤ W.heap.size → I pre W → pre.length < N → body.wpIn (Fence.wide.inRound l) 0 P (BodyX (TurnX X w.heap.size) I Ix (pre ++ [x]) W) (a₁ x) W)
    (hdone : ∀ (xs : List α) (W : World), S xs → I xs W → W.heap[w.heap.size]? = some (.deferred (some [])) → Q .normal { a with defers := { target := .collected w.heap.size, args := #[] } :: a.defers } W)
    (hstop : ∀ (pre : List α) (W : World), Sp pre → Ix pre W → W.heap[w.heap.size]? = some (.deferred (some [])) → Code.wpIn Fence.wide n P .ret Q { a with defers := { target := .collected w.heap.size, args := #[] } :: a.defers } W) :
    (Code.rangeFunc g ps assign body).wpIn Fence.wide n P Q a w := by
  refine wpIn_rangeFunc ?_
  intro fn hfn
  obtain ⟨rc, hrc⟩ : ∃ rc : LoopState → Option Code → Loop, rc = fun st pe => { state := st, pending := pe, fn, tmps := a.tmps, params := ps, assign, body, defers := w.heap.size } := ⟨_, rfl⟩
  obtain ⟨V, hV⟩ : ∃ V, V = (w.alloc (.deferred (some []))).alloc (.loop (rc .ready none)) := ⟨_, rfl⟩
  have hVs : V.heap.size = w.heap.size + 2 := by rw [hV]; simp
  have hVl : V.heap[w.heap.size + 1]? = some (.loop (rc .ready none)) := by
    have := World.alloc_heap_new (w.alloc (.deferred (some []))) (.loop (rc .ready none))
    rw [World.size_alloc] at this
    rw [hV]; exact this
  have hVd : V.heap[w.heap.size]? = some (.deferred (some [])) := by rw [hV]; exact (Below.heap_alloc _ _ _ (by simp)).trans (World.alloc_heap_new w _)
  have hVI : I [] V := by
    rw [hV]
    exact hI _ _ _ none (hI _ _ _ none h0 (World.grownBy_alloc _ _ none) (fun r e => by cases e)) (World.grownBy_alloc _ _ none) (fun r e => by cases e)
  have hVb : Below w.heap.size w V := by rw [hV]; exact ((Below.refl _ w).alloc (Nat.le_refl _) _).alloc (by simp) _
  refine ⟨w.heap.size + 1, [{ target := .collected w.heap.size, args := #[] }], V, { target := .fn (.func gf) lb, args := #[.func (.yield (w.heap.size + 1)) #[] #[]] }, V, gf, #[.func (.yield (w.heap.size + 1)) #[] #[]] ++ lb, V, ?_, ?_, fun _ _ => trivial, ?_, fun h => by simp [Fence.wide] at h, ?_⟩
  · rw [hV, hrc]; exact run_enterLoop_outer _ _ _ _ _
  · simp only [resolve, hg]
    simp [go_sem]
  · simp [invoke, go_sem, eg]
  refine callsIn_wide.2 ((hseq (w.heap.size + 1)
    (fun pre W => I pre W ∧ W.heap[w.heap.size + 1]? = some (.loop (rc .ready none)) ∧ W.heap[w.heap.size]? = some (.deferred (some [])))
    (fun pre W => Ix pre W ∧ W.heap[w.heap.size + 1]? = some (.loop (rc .done (some .ret))) ∧ W.heap[w.heap.size]? = some (.deferred (some [])))
    V hVb ?_ ?_ ?_ ⟨hVI, hVl, hVd⟩).mono ?_)
  · rintro s A B row ⟨q1, q2, q3⟩ hgr hr
    rw [hVs] at hr
    refine ⟨hI s A B row q1 hgr (fun r e => .inr (.inr (hr r e))), ?_, ?_⟩
    · rw [hgr.block _ (Array.getElem?_eq_some_iff.1 q2).1 (fun e => (hX _ (hr _ e.symm)).2 rfl)]; exact q2
    · rw [hgr.block _ (Array.getElem?_eq_some_iff.1 q3).1 (fun e => (hX _ (hr _ e.symm)).1 rfl)]; exact q3
  · rintro s A B row ⟨q1, q2, q3⟩ hgr hr
    rw [hVs] at hr
    refine ⟨hIx s A B row q1 hgr (fun r e => .inr (.inr (hr r e))), ?_, ?_⟩
    · rw [hgr.block _ (Array.getElem?_eq_some_iff.1 q2).1 (fun e => (hX _ (hr _ e.symm)).2 rfl)]; exact q2
    · rw [hgr.block _ (Array.getElem?_eq_some_iff.1 q3).1 (fun e => (hX _ (hr _ e.symm)).1 rfl)]; exact q3
  · rintro pre x W ⟨hi, hl, hd⟩ hlen hsz
    rw [hVs] at hsz
    rw [hVs]
    have hlt : w.heap.size + 1 < W.heap.size := (Array.getElem?_eq_some_iff.1 hl).1
    have hy := run_yield (P := P) (args := encs x) hl (by rw [hrc]; exact hps x)
    rw [hrc] at hy
    refine ⟨fn, _, assign, body, hy, roundIn_of_wpIn hfn (hassign _ x W _ ?_)⟩
    clear hy
    refine ⟨_, run_beginRound hl (by rw [hrc]), ?_⟩
    obtain ⟨U, hU⟩ : ∃ U, U = W.putObj (w.heap.size + 1) (.loop { rc .ready none with state := .busy }) := ⟨_, rfl⟩
    rw [← hU]
    have hUl : U.heap[w.heap.size + 1]? = some (.loop { rc .ready none with state := .busy }) := by rw [hU]; exact World.putObj_heap_same hlt
    have hUo : ∀ k, k ≠ w.heap.size + 1 → U.heap[k]? = W.heap[k]? := fun k hk => by rw [hU]; exact World.putObj_heap_other hk
    have hUs : U.heap.size = W.heap.size := by rw [hU]; simp [World.putObj]
    have hUI : I pre U := by rw [hU]; exact hI _ _ _ _ hi (grownBy_putObj' _ _ _) (fun r e => by cases e; exact .inr (.inl rfl))
    refine wpIn_mono (hbody _ pre x U (by omega) hUI hlen) ?_
    have fin : ∀ (jump : Option Code) (Z : World), KeepX (TurnX X w.heap.size) U Z →
        (Instr.endRound (w.heap.size + 1) jump).run P Z = .ok (.bool jump.isNone) (Z.putObj (w.heap.size + 1) (.loop (rc (if jump.isNone then .ready else .done) jump))) ∧
        (Z.putObj (w.heap.size + 1) (.loop (rc (if jump.isNone then .ready else .done) jump))).heap[w.heap.size + 1]? = some (.loop (rc (if jump.isNone then .ready else .done) jump)) ∧
        (Z.putObj (w.heap.size + 1) (.loop (rc (if jump.isNone then .ready else .done) jump))).heap[w.heap.size]? = some (.deferred (some [])) ∧
        KeepX (X (w.heap.size + 2)) W (Z.putObj (w.heap.size + 1) (.loop (rc (if jump.isNone then .ready else .done) jump))) := by
      intro jump Z hZ
      have hZl := (hZ.2 _ (.inr (.inl rfl))).trans hUl
      have he := run_endRound (P := P) jump hZl
      refine ⟨by rw [he, hrc], World.putObj_heap_same (Array.getElem?_eq_some_iff.1 hZl).1, ?_, ?_, ?_⟩
      · rw [World.putObj_heap_other (by omega), hZ.2 _ (.inl rfl), hUo _ (by omega)]; exact hd
      · have := hZ.1; simp [World.putObj]; omega
      · intro k hk
        have hk2 := (hX k hk).2
        rw [World.putObj_heap_other hk2, hZ.2 k (.inr (.inr hk)), hUo k hk2]
    rintro e a3 Z hp
    cases e with
    | normal =>
      obtain ⟨hZ, hi3⟩ := hp
      obtain ⟨q1, q2, q3, q4⟩ := fin none Z hZ
      exact ⟨_, _, q1, .inl ⟨rfl, ⟨hI _ _ _ _ hi3 (grownBy_putObj' _ _ _) (fun r e => by cases e; exact .inr (.inl rfl)), q2, q3⟩, q4⟩⟩
    | ret =>
      obtain ⟨hZ, hi3⟩ := hp
      obtain ⟨q1, q2, q3, q4⟩ := fin (some .ret) Z hZ
      exact ⟨_, _, q1, .inr ⟨rfl, ⟨hIx _ _ _ _ hi3 (grownBy_putObj' _ _ _) (fun r e => by cases e; exact .inr (.inl rfl)), q2, q3⟩, q4⟩⟩
    | exit id => exact hp.elim
    | goto t => exact hp.elim
    | panic ch => exact hp.elim
    | outgrown => exact hp.elim
  · rintro e W2 ⟨⟨v, rfl⟩, (⟨xs, hS, hi, hl, hd⟩ | ⟨pre, hSp, hi, hl, hd⟩)⟩
    · exact ⟨none, _, by have := run_endLoop (P := P) hl (by rw [hrc]; simp); rw [hrc] at this; exact this, hdone xs _ hS (hI _ _ _ _ hi (grownBy_putObj' _ _ _) (fun r e => by cases e; exact .inr (.inl rfl))) ((World.putObj_heap_other (by omega)).trans hd)⟩
    · exact ⟨some .ret, _, by have := run_endLoop (P := P) hl (by rw [hrc]; simp); rw [hrc] at this; exact this, hstop pre _ hSp (hIx _ _ _ _ hi (grownBy_putObj' _ _ _) (fun r e => by cases e; exact .inr (.inl rfl))) ((World.putObj_heap_other (by omega)).trans hd)⟩
end
end
section
open Go.RowKit
attribute [local go_sem] Oper.semAt_some
namespace Ld
theorem split_len (c : UInt8) (l : List UInt8) : (split c l).length ≤ l.length + 1 := by
  induction l with
  | nil => simp [split]
  | cons a r ih =>
    unfold split
    by_cases h : a = c
    · rw [if_pos h]; simp only [List.length_cons]; omega
    · rw [if_neg h]
      cases hs : split c r with
      | nil => simp
      | cons x y => rw [hs] at ih; simp only [List.length_cons] at ih ⊢; omega
theorem index_split (c : UInt8) (l : List UInt8) : (Lib.indexByte l c = -1 ∧ c ∉ l) ∨ ∃ a r, l = a ++ c :: r ∧ c ∉ a ∧ Lib.indexByte l c = (a.length : Int) := by
  induction l with
  | nil => exact .inl ⟨rfl, by simp⟩
  | cons b t ih =>
    by_cases h : b = c
    · exact .inr ⟨[], t, by simp [h], by simp, by simp [Lib.indexByte, h]⟩
    · have hb : (b == c) = false := by simpa using h
      rcases ih with ⟨h1, h2⟩ | ⟨a, r, h1, h2, h3⟩
      · exact .inl ⟨by simp [Lib.indexByte, hb, h1], by simp [h2, Ne.symm h]⟩
      · refine .inr ⟨b :: a, r, by simp [h1], by simp [h2, Ne.symm h], ?_⟩
        have hne : ¬ ((a.length : Int) = -1) := by omega
        simp [Lib.indexByte, hb, h3, hne]
end Ld
/-- a piece of a text of at most so many bytes -/
abbrev Piece (M : Nat) := { l : List UInt8 // l.length ≤ M }
def left1 (bs : Nat) (W : World) : Nat := match W.cell? ⟨bs, 0, none⟩ with
  | some (.string s) => s.size + 1
  | _ => 0
set_option maxHeartbeats 2000000 in
set_option maxRecDepth 100000 in
theorem splitSeq1_seq (c : UInt8) (s : List UInt8) (bs bsep bsv M : Nat) (w : World) (hM : s.length ≤ M) (hM2 : M ≤ 1000000) (h1 : w.heap[bs]? = some (.cells #[.string ⟨s.toArray⟩] 9 (0, 0))) (h2 : w.heap[bsep]? = some (.cells #[.string ⟨#[c]⟩] 9 (0, 0))) (h3 : w.heap[bsv]? = some (.cells #[.int .i64 0] 3 (0, 0))) (hn2 : bs ≠ bsep) (hn3 : bs ≠ bsv) :
    SeqX Tryz.prog 229 #[.pointer (some ⟨bsep, 0, none⟩), .pointer (some ⟨bs, 0, none⟩), .pointer (some ⟨bsv, 0, none⟩)] (fun x : Piece M => #[.string ⟨x.1.toArray⟩]) (fun _ k => k = bs ∨ k = bsep ∨ k = bsv) 0 (fun xs => xs.map (·.1) = Ld.split c s) (fun pre => ∃ r, Ld.split c s = pre.map (·.1) ++ r) (s.length + 1) w := by
  intro l J Jx W hW hJ hJx hY h0
  have hb1 : bs < w.heap.size := (Array.getElem?_eq_some_iff.1 h1).1
  have hb2 : bsep < w.heap.size := (Array.getElem?_eq_some_iff.1 h2).1
  have hb3 : bsv < w.heap.size := (Array.getElem?_eq_some_iff.1 h3).1
  have k1 := (hW.block _ hb1).trans h1
  have k2 := (hW.block _ hb2).trans h2
  have k3 := (hW.block _ hb3).trans h3
  have c1 : W.cell? ⟨bsep, 0, none⟩ = some (.string ⟨#[c]⟩) := by rw [Lib.cell_of_heap k2]; rfl
  refine callsIn_wide.1 (callsIn_of_wp (n := 0) Tryz.func229 rfl trivial ?_ rfl)
  simp only [Tryz.ntmps229, List.size_toArray, List.length_cons, List.length_nil, Nat.reduceAdd, Nat.reduceSub, Array.replicate_succ, Array.replicate_zero, List.push_toArray, List.append_toArray, List.nil_append, List.cons_append]
  gi_wp2
  gi_loopw [7] (fun _ wr => ∃ (pre : List (Piece M)) (rest : List UInt8), Ld.split c s = pre.map (·.1) ++ Ld.split c rest ∧ rest.length ≤ s.length ∧ wr.heap[bs]? = some (.cells #[.string ⟨rest.toArray⟩] 9 (0, 0)) ∧ wr.heap[bsep]? = some (.cells #[.string ⟨#[c]⟩] 9 (0, 0)) ∧ wr.heap[bsv]? = some (.cells #[.int .i64 0] 3 (0, 0)) ∧ W.heap.size ≤ wr.heap.size ∧ J pre wr) (fun _ wr => left1 bs wr)
  case atStart => exact ⟨[], s, rfl, Nat.le_refl _, k1, k2, k3, Nat.le_refl _, h0⟩
  case round =>
    clear k1 k2 k3 c1
    obtain ⟨pre, rest, hsp, hrl, k1, k2, k3, hsz, hj⟩ := hrel
    have c1 : wr.cell? ⟨bsep, 0, none⟩ = some (.string ⟨#[c]⟩) := by rw [Lib.cell_of_heap k2]; rfl
    have c2 : wr.cell? ⟨bs, 0, none⟩ = some (.string ⟨rest.toArray⟩) := by rw [Lib.cell_of_heap k1]; rfl
    have c3 : wr.cell? ⟨bsv, 0, none⟩ = some (.int .i64 0) := by rw [Lib.cell_of_heap k3]; rfl
    have HIX := hide (Tryz.strings_Index_one ⟨rest.toArray⟩ c wr)
    have hlenN : pre.length < s.length + 1 := by
      have h1 := congrArg List.length hsp
      have h2 := Ld.split_len c s
      have h3 := Ld.split_ne c rest
      have h4 : 0 < (Ld.split c rest).length := List.length_pos_iff.2 h3
      rw [List.length_append, List.length_map] at h1
      omega
    rcases Ld.index_split c rest with ⟨hi, hno⟩ | ⟨a, r, hr, hno, hi⟩
    · have e : (⟨rest.toArray⟩ : ByteArray).data.toList = rest := rfl
      rw [e, hi] at HIX
      obtain ⟨fn, tmps, assign, body, hy, hR⟩ := hY pre ⟨rest, by omega⟩ wr hj hlenN (by omega)
      dsimp only at hy
      have HR := hide hR
      have HFIN : Hid (Ld.split c s = pre.map (·.1) ++ [rest]) := by show _ = _; rw [hsp, Ld.split_none c rest hno]
      clear hR
      gi_wp2_with fail
      refine ⟨trivial, rfl, ?_⟩
      refine (callsIn_wide.2 HIX.out).mono ?_
      rintro e w' ⟨rfl, rfl⟩
      gi_wp2_with fail
      refine ⟨rfl, (round_any HR.out).mono ?_⟩
      rintro e W' (⟨rfl, hJ', hk⟩ | ⟨rfl, hJx', hk⟩)
      · gi_wp2_with fail
        go_end0
        exact ⟨⟨_, rfl⟩, .inl ⟨_, by rw [HFIN.out]; simp, hJ'⟩⟩
      · gi_wp2_with fail
        go_end0
        exact ⟨⟨_, rfl⟩, .inr ⟨_, ⟨[], by rw [HFIN.out]; simp⟩, hJx'⟩⟩
    · have e : (⟨rest.toArray⟩ : ByteArray).data.toList = rest := rfl
      rw [e, hi] at HIX
      have hal : a.length ≤ M := by have := congrArg List.length hr; simp at this; omega
      obtain ⟨fn, tmps, assign, body, hy, hR⟩ := hY pre ⟨a, hal⟩ wr hj hlenN (by omega)
      dsimp only at hy
      have HR := hide hR
      clear hR
      have hrlen : (⟨rest.toArray⟩ : ByteArray).size = rest.length := by simp [ByteArray.size]
      have hlr : rest.length = a.length + 1 + r.length := by rw [hr]; simp; omega
      have HRE := hide hr
      have hx1 : (⟨rest.toArray⟩ : ByteArray).extract 0 a.length = ⟨a.toArray⟩ := by
        apply ByteArray.ext
        rw [ByteArray.data_extract]
        show rest.toArray.extract 0 a.length = a.toArray
        rw [List.extract_toArray, hr]
        simp [List.extract]
      have hx2 : (⟨rest.toArray⟩ : ByteArray).extract (a.length + 1) (a.length + 1 + r.length) = ⟨r.toArray⟩ := by
        apply ByteArray.ext
        rw [ByteArray.data_extract]
        show rest.toArray.extract (a.length + 1) (a.length + 1 + r.length) = r.toArray
        rw [List.extract_toArray, hr]
        have e1 : (a ++ c :: r) = (a ++ [c]) ++ r := by simp
        have e2 : a.length + 1 = (a ++ [c]).length := by simp
        rw [e1, e2, List.extract, List.drop_left, Nat.add_sub_cancel_left, List.take_length]
      rw [← hx1] at hy
      have HX2 := hide hx2
      have HSP : Hid (Ld.split c s = (pre ++ [(⟨a, hal⟩ : Piece M)]).map (·.1) ++ Ld.split c r) := by
        show _ = _
        rw [hsp, hr, Ld.split_at c a r hno, List.map_append]; simp
      have HLM : Hid (left1 bs wr = rest.length + 1) := by show _ = _; unfold left1; rw [c2]; simp only [hrlen]
      clear hr hx1 hx2
      gi_wp2_with fail
      refine ⟨trivial, rfl, ?_⟩
      refine (callsIn_wide.2 HIX.out).mono ?_
      rintro e w' ⟨rfl, rfl⟩
      gi_wp2_with fail
      refine ⟨rfl, (round_any HR.out).mono ?_⟩
      rintro e W' (⟨rfl, hJ', hk⟩ | ⟨rfl, hJx', hk⟩)
      · have g1 := (hk.2 bs (.inl rfl)).trans k1
        have g2 := (hk.2 bsep (.inr (.inl rfl))).trans k2
        have g3 := (hk.2 bsv (.inr (.inr rfl))).trans k3
        have d1 : W'.cell? ⟨bsep, 0, none⟩ = some (.string ⟨#[c]⟩) := by rw [Lib.cell_of_heap g2]; rfl
        have d2 : W'.cell? ⟨bs, 0, none⟩ = some (.string ⟨rest.toArray⟩) := by rw [Lib.cell_of_heap g1]; rfl
        have f2 : W'.frozen? ⟨bs, 0, none⟩ = false := Lib.frozen_of_heap g1 0
        have HJ' := hide hJ'
        have G1 := hide g1
        have G2 := hide g2
        have G3 := hide g3
        have HKS := hide hk.1
        clear hJ' hk g1 g2 g3 k1 k2 k3 c1 c2 c3 hY HR HIX hy
        gi_wp2_with fail
        rw [HX2.out]
        refine ⟨⟨pre ++ [⟨a, hal⟩], r, HSP.out, by omega, ?_, ?_, ?_, ?_, ?_⟩, ?_⟩
        · simp [World.setCell, Array.getElem?_modify, G1.out]
        · rw [Below.heap_setCell _ _ _ _ (fun e => hn2 (by simpa using e.symm))]; exact G2.out
        · rw [Below.heap_setCell _ _ _ _ (fun e => hn3 (by simpa using e.symm))]; exact G3.out
        · have := HKS.out
          simp [World.setCell]; omega
        · exact hJ _ W' _ (some bs) HJ'.out ⟨rfl, rfl, rfl, by simp [World.setCell], fun k _ hk => Below.heap_setCell _ _ _ _ (fun e => hk (by simp [e]))⟩ (fun r e => by cases e; exact .inl rfl)
        · rw [HLM.out]
          have hc : (W'.setCell ⟨bs, 0, none⟩ (.string ⟨r.toArray⟩)).cell? ⟨bs, 0, none⟩ = some (.string ⟨r.toArray⟩) := World.cell?_setCell_same' _ _ _ (by rw [Lib.cell_of_heap G1.out]; rfl)
          unfold left1
          rw [hc]
          have : (⟨r.toArray⟩ : ByteArray).size = r.length := by simp [ByteArray.size]
          simp only [this]
          omega
      · gi_wp2_with fail
        refine bodyPost_ret_by (v := .tuple #[]) ?_ rfl ⟨⟨_, rfl⟩, .inr ⟨_, ⟨Ld.split c r, HSP.out⟩, hJx'⟩⟩
        simp [results, Tryz.results229, go_sem]
end
section
open Go.RowKit
attribute [local go_sem] Oper.semAt_some
theorem clone_list (s : List UInt8) (w : World) (h : s.length ≤ 1000000) : Calls Tryz.prog 233 #[.string ⟨s.toArray⟩] w fun e w' => e = .returned (.string ⟨s.toArray⟩) ∧ Below w.heap.size w w' := by
  have HC := hide (Tryz.stringslite_Clone ⟨s.toArray⟩ w (by show s.toArray.size ≤ _; rw [List.size_toArray]; omega))
  go_enter Tryz.func233, Tryz.ntmps233
  go_wp2_with fail
  refine HC.out.mono ?_
  rintro e w1 ⟨rfl, hb⟩
  have HB := hide hb
  clear hb HC
  go_wp2_with fail
  go_ret
  exact ⟨rfl, HB.out⟩
/-- the world where SplitSeq's three boxes are laid -/
def boxed3 (w : World) (s : List UInt8) (c : UInt8) : World := ((w.alloc (.cells #[.string ⟨s.toArray⟩] 9)).alloc (.cells #[.string ⟨#[c]⟩] 9)).alloc (.cells #[.int .i64 0] 3)
theorem boxed3_size (w : World) (s : List UInt8) (c : UInt8) : (boxed3 w s c).heap.size = w.heap.size + 3 := by simp [boxed3]
theorem boxed3_below (w : World) (s : List UInt8) (c : UInt8) : Below w.heap.size w (boxed3 w s c) := (((Below.refl _ w).alloc (Nat.le_refl _) _).alloc (by simp) _).alloc (by simp; omega) _
theorem boxed3_at (w : World) (s : List UInt8) (c : UInt8) : (boxed3 w s c).heap[w.heap.size]? = some (.cells #[.string ⟨s.toArray⟩] 9 (0, 0)) ∧ (boxed3 w s c).heap[w.heap.size + 1]? = some (.cells #[.string ⟨#[c]⟩] 9 (0, 0)) ∧ (boxed3 w s c).heap[w.heap.size + 2]? = some (.cells #[.int .i64 0] 3 (0, 0)) := by
  unfold boxed3
  refine ⟨?_, ?_, ?_⟩
  · rw [Below.heap_alloc _ _ _ (by simp; omega), Below.heap_alloc _ _ _ (by simp)]; exact heap_alloc_new w _
  · rw [Below.heap_alloc _ _ _ (by simp)]
    have := heap_alloc_new (w.alloc (.cells #[.string ⟨s.toArray⟩] 9)) (.cells #[.string ⟨#[c]⟩] 9)
    rwa [World.size_alloc] at this
  · have := heap_alloc_new ((w.alloc (.cells #[.string ⟨s.toArray⟩] 9)).alloc (.cells #[.string ⟨#[c]⟩] 9)) (.cells #[.int .i64 0] 3)
    rwa [World.size_alloc, World.size_alloc] at this
theorem SplitSeq_any (s : List UInt8) (c : UInt8) (w : World) :
    Calls Tryz.prog 151 #[.string ⟨s.toArray⟩, .string ⟨#[c]⟩] w fun e w' => e = .returned (.func (.func 229) #[] #[.pointer (some ⟨w.heap.size + 1, 0, none⟩), .pointer (some ⟨w.heap.size, 0, none⟩), .pointer (some ⟨w.heap.size + 2, 0, none⟩)]) ∧ w' = boxed3 w s c := by
  have hmf : ∀ (fn : Fn) (first cap : Array Value) (w : World), (Instr.makeFunc fn first cap).run Tryz.prog w = .ok (.func fn first cap) w := fun _ _ _ _ => rfl
  have HI : Hid (Calls Tryz.prog 179 #[.string ⟨s.toArray⟩, .string ⟨#[c]⟩, .int .i64 0] w fun e w' => e = .returned (.func (.func 229) #[] #[.pointer (some ⟨w.heap.size + 1, 0, none⟩), .pointer (some ⟨w.heap.size, 0, none⟩), .pointer (some ⟨w.heap.size + 2, 0, none⟩)]) ∧ w' = boxed3 w s c) := by
    show Calls _ _ _ _ _
    go_enter Tryz.func179, Tryz.ntmps179
    go_wp2_with fail
    go_ret
    exact ⟨rfl, rfl⟩
  go_enter Tryz.func151, Tryz.ntmps151
  go_wp2_with fail
  refine HI.out.mono ?_
  rintro e w1 ⟨rfl, rfl⟩
  clear HI
  go_wp2_with fail
  go_ret
  exact ⟨rfl, rfl⟩
/-- an append within a region, by what it comes to -/
theorem wpIn_append_run {F : Fence} {n : Nat} {P : Program} {o : Oper} {a : Act} {w w' : World} {v' : Value} {K : Act → World → Prop} {Q : Exit → Act → World → Prop} (s x : Operand) (t : TypeId) (ho : o.op = .call { callee := .builtin .append, args := #[s, x], argTypes := #[t, t] })
    (hr : (Builtin.append_ #[t, t] o.type #[a.eval s, a.eval x]).run P w = .ok v' w') (hK : K (a.put o.dst v') w') : Oper.wpIn F n P o a w K Q := by
  unfold Oper.wpIn
  refine ⟨by simp [Oper.about, ho, resolve, Target.leads, Sem.run_pure], ?_⟩
  rw [Oper.semAt_plain F _ _ (by rw [ho]; intro c hc; cases hc)]
  simp [execOp, ho, resolve, invoke, builtin, hr, Result.andThen]
  exact hK
/-- in block p lies a slice of strings, its row in block q or behind it; all below p stands as in w0 -/
def Gat (p q : Nat) (w0 : World) (ns : List (List UInt8)) (W : World) : Prop :=
  (∃ v, W.heap[p]? = some (.cells #[v] 65 (0, 0)) ∧ W.ownsRow q 9 1 v ns.length (ns.map strV)) ∧ Below p w0 W
theorem Gat.turn {p q : Nat} {w0 : World} {ns : List (List UInt8)} {A B : World} {row : Option Nat} (h : Gat p q w0 ns A) (hg : A.grownBy B row) (hr : ∀ r, row = some r → p < r ∧ r < q) : Gat p q w0 ns B := by
  obtain ⟨⟨v, h1, h2⟩, h3⟩ := h
  have hlt : p < A.heap.size := (Array.getElem?_eq_some_iff.1 h1).1
  refine ⟨⟨v, (hg.block _ hlt (fun e => by have := (hr _ e.symm).1; omega)).trans h1, h2.kept hg ?_⟩, h3.grown hg (by omega) (fun k hk => by have := (hr k hk).1; omega)⟩
  cases hv : v.ownBlock with
  | none => exact .inl rfl
  | some k => right; intro e; have := (h2.lt k hv).1; have := (hr k e.symm).2; omega
/-- one string more: what the append comes to, and what stands behind the store -/
theorem Gat.put {p q : Nat} {w0 : World} {ns : List (List UInt8)} {W wc : World} {v : Value} {y : List UInt8} (hv : W.heap[p]? = some (.cells #[v] 65 (0, 0))) (ho : W.ownsRow q 9 1 v ns.length (ns.map strV)) (hb : Below p w0 W) (hpq : p < q) (hq : q ≤ W.heap.size) (hc : Below W.heap.size W wc) (hn : ns.length ≤ 1000000) :
    ∃ (g cap : Nat) (wA : World), (Builtin.append_ #[65, 65] 65 #[v, .slice (some ⟨wc.heap.size, 0, none⟩) 1 1]).run Tryz.prog (wc.alloc (.cells #[.string ⟨y.toArray⟩] 9)) = .ok (.slice (some ⟨g, 0, none⟩) (ns.length + 1) cap) wA ∧
      wA.cell? ⟨p, 0, none⟩ = some v ∧ wA.frozen? ⟨p, 0, none⟩ = false ∧ Gat p q w0 (ns ++ [y]) (wA.setCell ⟨p, 0, none⟩ (.slice (some ⟨g, 0, none⟩) (ns.length + 1) cap)) ∧
      ∀ Y : Nat → Prop, (∀ k, Y k → p < k ∧ k < q) → KeepX Y W (wA.setCell ⟨p, 0, none⟩ (.slice (some ⟨g, 0, none⟩) (ns.length + 1) cap)) := by
  obtain ⟨i0, hi0, hz0, hz1, hz2⟩ := info_parts Tryz.infoStr
  have hplt : p < W.heap.size := (Array.getElem?_eq_some_iff.1 hv).1
  have hoc : wc.ownsRow q 9 1 v ns.length (ns.map strV) := ho.kept (row := none) ⟨hc.os, hc.tape, hc.output, hc.size, fun k hk _ => hc.block k hk⟩ (by cases v.ownBlock <;> simp)
  have hlt : ∀ k, v.ownBlock = some k → q ≤ k ∧ k < W.heap.size := fun k hk => ho.lt k hk
  obtain ⟨v', wA, hr, hown, hg, _⟩ := run_append_own (P := Tryz.prog) (w := wc.alloc (.cells #[.string ⟨y.toArray⟩] 9)) q 65 65 9 i0 (.string ⟨#[]⟩) 1 16 Tryz.underlying65 hi0 hz0 hz1 hz2 rfl (by decide) v ns.length (ns.map strV) (hoc.alloc _) ⟨wc.heap.size, 0, none⟩ 1 1 [.string ⟨y.toArray⟩] rfl (cell_one_new _ _ _) (fun z hz => by simp at hz; subst hz; rfl) (by unfold maxLen; omega) (by omega) (by have := hc.size; simp; omega)
  obtain ⟨g, cap, rfl⟩ : ∃ g cap, v' = .slice (some ⟨g, 0, none⟩) (ns.length + 1) cap := by
    rcases hown.2 with ⟨_, h0⟩ | ⟨g, cap, cur, hv, _⟩
    · omega
    · exact ⟨g, cap, hv⟩
  have hcs := hc.size
  have hgq : q ≤ g := (hown.lt g rfl).1
  have hblk : ∀ k, k < W.heap.size → (∀ j, v.ownBlock = some j → k ≠ j) → wA.heap[k]? = W.heap[k]? := by
    intro k hk hne
    rw [hg.block k (by simp; omega) (fun e => hne k e.symm rfl), Below.heap_alloc _ _ _ (by omega)]
    exact hc.block k hk
  have hp : wA.heap[p]? = some (.cells #[v] 65 (0, 0)) := (hblk p hplt (fun j hj => by have := (hlt j hj).1; omega)).trans hv
  refine ⟨g, cap, wA, hr, by rw [Lib.cell_of_heap hp]; rfl, Lib.frozen_of_heap hp 0, ⟨⟨.slice (some ⟨g, 0, none⟩) (ns.length + 1) cap, ?_, ?_⟩, ?_⟩, ?_⟩
  · simp [World.setCell, Array.getElem?_modify, hp]
  · have e1 : (ns ++ [y]).length = ns.length + 1 := by simp
    have e2 : (ns ++ [y]).map strV = ns.map strV ++ [strV y] := by simp
    rw [e1, e2]
    exact hown.kept (row := some p) ⟨rfl, rfl, rfl, by simp [World.setCell], fun k _ hk => Below.heap_setCell _ _ _ _ (fun e => hk (by simp [e]))⟩ (.inr (by intro e; simp only [Value.ownBlock, Option.some.injEq] at e; omega))
  · refine ⟨?_, ?_, ?_, ?_, ?_⟩
    · exact (hg.os.trans (hc.os.trans hb.os) : _)
    · exact (hg.tape.trans (hc.tape.trans hb.tape) : _)
    · exact (hg.output.trans (hc.output.trans hb.output) : _)
    · have := hg.size; have := hb.size; simp [World.setCell] at *; omega
    · intro k hk
      rw [Below.heap_setCell _ _ _ _ (fun e => by simp at e; omega), hblk k (by omega) (fun j hj => by have := (hlt j hj).1; omega)]
      exact hb.block k hk
  · intro Y hY
    refine ⟨?_, fun k hk => ?_⟩
    · have := hg.size; simp [World.setCell] at *; omega
    · have h1 := hY k hk
      rw [Below.heap_setCell _ _ _ _ (fun e => by simp at e; omega)]
      exact hblk k (by omega) (fun j hj => by have := (hlt j hj).1; omega)
theorem strs_of_row {W : World} {q : Nat} {v : Value} {ns : List (List UInt8)} (h : W.ownsRow q 9 1 v ns.length (ns.map strV)) (hn : ns.length ≤ 1000000) : Strs W v (ns.map toBA) := by
  rcases h.2 with ⟨rfl, h0⟩ | ⟨g, cap, cur, rfl, _, hcur, hcap, _, hsz, htk⟩
  · exact .inl ⟨by rw [List.length_eq_zero_iff.1 h0]; rfl, _, _, rfl⟩
  · refine .inr ⟨g, 0, cap, by simp, by simpa using hcap, by simpa using hn, ?_⟩
    intro k s hk
    rw [List.getElem?_map] at hk
    cases hnk : ns[k]? with
    | none => rw [hnk] at hk; simp at hk
    | some y =>
      rw [hnk] at hk
      simp only [Option.map_some, Option.some.injEq] at hk
      have hkl : k < ns.length := (List.getElem?_eq_some_iff.1 hnk).1
      have h1 : (ns.map strV)[k]? = some (strV y) := by rw [List.getElem?_map, hnk]; rfl
      rw [← htk, List.getElem?_take_of_lt (by omega)] at h1
      rw [Nat.zero_add, Lib.cell_of_heap hcur, ← Array.getElem?_toList, h1, ← hk]
      rfl
/-- the words among some pieces -/
def wordsOf {M : Nat} (l : List (Piece M)) : List (List UInt8) := (l.map (·.1)).filter fun a => !a.isEmpty
theorem wordsOf_snoc {M : Nat} (l : List (Piece M)) (x : Piece M) : wordsOf (l ++ [x]) = wordsOf l ++ (if x.1 = [] then [] else [x.1]) := by
  unfold wordsOf
  rw [List.map_append, List.filter_append]
  congr 1
  by_cases h : x.1 = []
  · simp [h]
  · have : (!x.1.isEmpty) = true := by simpa using h
    simp [h]
theorem wordsOf_le {M : Nat} (l : List (Piece M)) : (wordsOf l).length ≤ l.length := Nat.le_trans (List.length_filter_le _ _) (by simp)
set_option maxHeartbeats 2000000 in
set_option maxRecDepth 100000 in
theorem words_any (s : List UInt8) (w : World) (hs : s.length ≤ 20000) :
    Calls Tryz.prog 189 #[.string ⟨s.toArray⟩] w fun e w' => ∃ sv, e = .returned sv ∧ Strs w' sv ((Ld.words s).map toBA) ∧ Below w.heap.size w w' := by
  have HSS := hide (SplitSeq_any s 32)
  obtain ⟨i0, hi0, hz0, hz1, hz2⟩ := info_parts Tryz.infoStr
  refine callsIn_wide.1 (callsIn_of_wp_marks (n := 0) Tryz.func189 rfl trivial ?_ rfl)
  simp only [Tryz.ntmps189, List.size_toArray, List.length_cons, List.length_nil, Nat.reduceAdd, Nat.reduceSub, Array.replicate_succ, Array.replicate_zero, List.push_toArray, List.append_toArray, List.nil_append, List.cons_append]
  gi_wp2_with fail
  refine ⟨trivial, rfl, ?_⟩
  refine (callsIn_wide.2 (HSS.out _)).mono ?_
  rintro e w1 ⟨rfl, hw1⟩
  have hw1' : w1 = boxed3 (w.alloc (.cells #[.slice none 0 0] 65)) s 32 := hw1
  have hat := boxed3_at (w.alloc (.cells #[.slice none 0 0] 65)) s 32
  have hsz := boxed3_size (w.alloc (.cells #[.slice none 0 0] 65)) s 32
  have hbl := boxed3_below (w.alloc (.cells #[.slice none 0 0] 65)) s 32
  rw [← hw1'] at hat hsz hbl
  rw [World.size_alloc] at hat hsz hbl
  have hnew : w1.heap[w.heap.size]? = some (.cells #[.slice none 0 0] 65 (0, 0)) := (hbl.block _ (by simp)).trans (heap_alloc_new w _)
  have hbw : Below w.heap.size w w1 := ((Below.refl _ w).alloc (Nat.le_refl _) _).trans (hbl.mono (by simp))
  have hseq := splitSeq1_seq 32 s (w.heap.size + 1) (w.heap.size + 1 + 1) (w.heap.size + 1 + 2) 20000 w1 hs (by omega) hat.1 hat.2.1 hat.2.2 (by omega) (by omega)
  clear hw1 hw1' hat hbl
  gi_wp2_with fail
  refine range_law (α := Piece 20000) (gf := 229) (lb := #[.pointer (some ⟨w.heap.size + 1 + 1, 0, none⟩), .pointer (some ⟨w.heap.size + 1, 0, none⟩), .pointer (some ⟨w.heap.size + 1 + 2, 0, none⟩)]) rfl (fun _ _ => by kernel_rfl) hseq (fun k hk => by omega) (fun _ => rfl)
    (fun pre W => Gat w.heap.size (w.heap.size + 6) w (wordsOf pre) W) (fun _ _ => False)
    (fun s A B row h hg hr => h.turn hg (fun r e => by have := hr r e; unfold TurnX at this; omega)) (fun _ _ _ _ h _ _ => h)
    ⟨⟨_, hnew, World.ownsRow_nil _ _ _ _⟩, hbw⟩
    (fun x => { tmps := #[.string ⟨s.toArray⟩, undef, .slice none 0 0, .pointer (some ⟨w.heap.size, 0, none⟩), .string ⟨x.1.toArray⟩, .string ⟨s.toArray⟩, .func (.func 229) #[] #[.pointer (some ⟨w.heap.size + 1 + 1, 0, none⟩), .pointer (some ⟨w.heap.size + 1, 0, none⟩), .pointer (some ⟨w.heap.size + 1 + 2, 0, none⟩)], .string ⟨x.1.toArray⟩, undef, undef, undef, undef, undef, undef, undef, undef], defers := [] }) ?assign ?body ?done ?stop
  case assign =>
    intro l x W K hK
    gi_wp2
    exact hK
  case body =>
    rintro l pre x W hszW ⟨⟨v, hv, ho⟩, hb⟩ hlen
    obtain ⟨y, hy⟩ := x
    have hbt := bytes_list y
    have hbe : (⟨#[]⟩ : ByteArray).toList = [] := by rw [ByteArray.toList_eq]
    by_cases h0 : y = []
    · subst h0
      gi_wp2_with fail
      exact ⟨⟨Nat.le_refl _, fun _ _ => rfl⟩, by show Gat _ _ _ (wordsOf _) _; rw [wordsOf_snoc]; simp only [if_true, List.append_nil]; exact ⟨⟨v, hv, ho⟩, hb⟩⟩
    · have hyb : (y != []) = true := by simpa using h0
      have HV := hide hv
      have HO := hide ho
      have HB := hide hb
      have hlt : w.heap.size < W.heap.size := (Array.getElem?_eq_some_iff.1 hv).1
      have c0 : W.cell? ⟨w.heap.size, 0, none⟩ = some v := by rw [Lib.cell_of_heap hv]; rfl
      obtain ⟨a, n, cc, hvs⟩ : ∃ a n c, v = .slice a n c := by
        rcases ho.2 with ⟨hv, _⟩ | ⟨g, cap, cur, hv, _⟩
        · exact ⟨_, _, _, hv⟩
        · exact ⟨_, _, _, hv⟩
      subst hvs
      have HCL := hide (fun W => clone_list y W (by omega))
      have hyE : y.isEmpty = false := by simpa using h0
      have HNE := hide h0
      have hmx : Tryz.prog.follows .mixedOrders = true := by kernel_rfl
      have hszW2 : w.heap.size + 6 ≤ W.heap.size := by omega
      have HNL := hide (wordsOf_le pre)
      have HAP : Hid (∀ wc, Below W.heap.size W wc → _) := fun wc hbc => Gat.put (y := y) HV.out HO.out HB.out (by omega) hszW2 hbc (by have := HNL.out; omega)
      clear hv ho hb h0
      gi_wp2_with fail
      refine wpIn_region_any hmx ?_
      change wpAnyIn _ _ _ _ _ _ _ _ _ (World.drew _)
      refine wpAnyIn_ready (rs := [0, 1]) (by kernel_rfl) (by simp) ?_
      refine AllReadyIn.cons rfl (fun K hK => ?_) (AllReadyIn.cons rfl (fun K hK => ?_) AllReadyIn.nil)
      · go_simp
        refine hK _ _ ?_
        clear hK K
        refine wpAnyIn_ready (rs := [1]) (by kernel_rfl) (by simp) ?_
        refine AllReadyIn.cons rfl (fun K hK => ?_) AllReadyIn.nil
        go_simp
        refine hK _ _ ?_
        clear hK K
        refine wpAnyIn_ready (rs := [2]) (by kernel_rfl) (by simp) ?_
        refine AllReadyIn.cons rfl (fun K hK => ?_) AllReadyIn.nil
        go_simp
        refine ⟨trivial, rfl, ?_⟩
        refine (CallsIn.inRound l (callsIn_wide.2 (HCL.out _))).mono ?_
        rintro e wc ⟨rfl, hbc⟩
        have hbc2 : Below W.heap.size W wc := ⟨hbc.os, hbc.tape, hbc.output, hbc.size, hbc.block⟩
        have cC : wc.cell? ⟨w.heap.size, 0, none⟩ = some (.slice a n cc) := (hbc2.cell (p := ⟨w.heap.size, 0, none⟩) hlt).trans c0
        have hltc : w.heap.size < wc.heap.size := Nat.lt_of_lt_of_le hlt hbc2.size
        obtain ⟨g, cap, wA, hrun, hcA, hfA, hGA, hKA⟩ := HAP.out wc hbc2
        have HGA := hide hGA
        have HKA := hide hKA
        clear hGA hKA hbc hbc2
        refine hK _ _ ?_
        clear hK K
        refine wpAnyIn_ready (rs := [3]) (by kernel_rfl) (by simp) ?_
        refine AllReadyIn.cons rfl (fun K hK => ?_) AllReadyIn.nil
        go_simp
        refine hK _ _ ?_
        clear hK K
        refine wpAnyIn_ready (rs := [4]) (by kernel_rfl) (by simp) ?_
        refine AllReadyIn.cons rfl (fun K hK => ?_) AllReadyIn.nil
        rw [if_pos (by rfl)]
        refine wpIn_append_run (.tmp 10) (.tmp 13) 65 rfl hrun ?_
        refine hK _ _ ?_
        clear hK K
        refine wpAnyIn_ready (rs := [5]) (by kernel_rfl) (by simp) ?_
        refine AllReadyIn.cons rfl (fun K hK => ?_) AllReadyIn.nil
        go_simp
        refine hK _ _ ?_
        clear hK K
        refine wpAnyIn_done (by kernel_rfl) ?_ _
        gi_wp2_with fail
        exact ⟨HKA.out _ (fun k hk => by unfold TurnX at hk; omega), by show Gat _ _ _ (wordsOf _) _; rw [wordsOf_snoc, if_neg HNE.out]; exact HGA.out⟩
      · go_simp
        refine hK _ _ ?_
        clear hK K
        refine wpAnyIn_ready (rs := [0, 2]) (by kernel_rfl) (by simp) ?_
        refine AllReadyIn.cons rfl (fun K hK => ?_) (AllReadyIn.cons rfl (fun K hK => ?_) AllReadyIn.nil)
        · go_simp
          refine hK _ _ ?_
          clear hK K
          refine wpAnyIn_ready (rs := [2]) (by kernel_rfl) (by simp) ?_
          refine AllReadyIn.cons rfl (fun K hK => ?_) AllReadyIn.nil
          go_simp
          refine ⟨trivial, rfl, ?_⟩
          refine (CallsIn.inRound l (callsIn_wide.2 (HCL.out _))).mono ?_
          rintro e wc ⟨rfl, hbc⟩
          have hbc2 : Below W.heap.size W wc := ⟨hbc.os, hbc.tape, hbc.output, hbc.size, hbc.block⟩
          have cC : wc.cell? ⟨w.heap.size, 0, none⟩ = some (.slice a n cc) := (hbc2.cell (p := ⟨w.heap.size, 0, none⟩) hlt).trans c0
          have hltc : w.heap.size < wc.heap.size := Nat.lt_of_lt_of_le hlt hbc2.size
          obtain ⟨g, cap, wA, hrun, hcA, hfA, hGA, hKA⟩ := HAP.out wc hbc2
          have HGA := hide hGA
          have HKA := hide hKA
          clear hGA hKA hbc hbc2
          refine hK _ _ ?_
          clear hK K
          refine wpAnyIn_ready (rs := [3]) (by kernel_rfl) (by simp) ?_
          refine AllReadyIn.cons rfl (fun K hK => ?_) AllReadyIn.nil
          go_simp
          refine hK _ _ ?_
          clear hK K
          refine wpAnyIn_ready (rs := [4]) (by kernel_rfl) (by simp) ?_
          refine AllReadyIn.cons rfl (fun K hK => ?_) AllReadyIn.nil
          rw [if_pos (by rfl)]
          refine wpIn_append_run (.tmp 10) (.tmp 13) 65 rfl hrun ?_
          refine hK _ _ ?_
          clear hK K
          refine wpAnyIn_ready (rs := [5]) (by kernel_rfl) (by simp) ?_
          refine AllReadyIn.cons rfl (fun K hK => ?_) AllReadyIn.nil
          go_simp
          refine hK _ _ ?_
          clear hK K
          refine wpAnyIn_done (by kernel_rfl) ?_ _
          gi_wp2_with fail
          exact ⟨HKA.out _ (fun k hk => by unfold TurnX at hk; omega), by show Gat _ _ _ (wordsOf _) _; rw [wordsOf_snoc, if_neg HNE.out]; exact HGA.out⟩
        · go_simp
          refine ⟨trivial, rfl, ?_⟩
          refine (CallsIn.inRound l (callsIn_wide.2 (HCL.out _))).mono ?_
          rintro e wc ⟨rfl, hbc⟩
          have hbc2 : Below W.heap.size W wc := ⟨hbc.os, hbc.tape, hbc.output, hbc.size, hbc.block⟩
          have cC : wc.cell? ⟨w.heap.size, 0, none⟩ = some (.slice a n cc) := (hbc2.cell (p := ⟨w.heap.size, 0, none⟩) hlt).trans c0
          have hltc : w.heap.size < wc.heap.size := Nat.lt_of_lt_of_le hlt hbc2.size
          obtain ⟨g, cap, wA, hrun, hcA, hfA, hGA, hKA⟩ := HAP.out wc hbc2
          have HGA := hide hGA
          have HKA := hide hKA
          clear hGA hKA hbc hbc2
          refine hK _ _ ?_
          clear hK K
          refine wpAnyIn_ready (rs := [0, 3]) (by kernel_rfl) (by simp) ?_
          refine AllReadyIn.cons rfl (fun K hK => ?_) (AllReadyIn.cons rfl (fun K hK => ?_) AllReadyIn.nil)
          · go_simp
            refine hK _ _ ?_
            clear hK K
            refine wpAnyIn_ready (rs := [3]) (by kernel_rfl) (by simp) ?_
            refine AllReadyIn.cons rfl (fun K hK => ?_) AllReadyIn.nil
            go_simp
            refine hK _ _ ?_
            clear hK K
            refine wpAnyIn_ready (rs := [4]) (by kernel_rfl) (by simp) ?_
            refine AllReadyIn.cons rfl (fun K hK => ?_) AllReadyIn.nil
            rw [if_pos (by rfl)]
            refine wpIn_append_run (.tmp 10) (.tmp 13) 65 rfl hrun ?_
            refine hK _ _ ?_
            clear hK K
            refine wpAnyIn_ready (rs := [5]) (by kernel_rfl) (by simp) ?_
            refine AllReadyIn.cons rfl (fun K hK => ?_) AllReadyIn.nil
            go_simp
            refine hK _ _ ?_
            clear hK K
            refine wpAnyIn_done (by kernel_rfl) ?_ _
            gi_wp2_with fail
            exact ⟨HKA.out _ (fun k hk => by unfold TurnX at hk; omega), by show Gat _ _ _ (wordsOf _) _; rw [wordsOf_snoc, if_neg HNE.out]; exact HGA.out⟩
          · go_simp
            refine hK _ _ ?_
            clear hK K
            refine wpAnyIn_ready (rs := [0]) (by kernel_rfl) (by simp) ?_
            refine AllReadyIn.cons rfl (fun K hK => ?_) AllReadyIn.nil
            go_simp
            refine hK _ _ ?_
            clear hK K
            refine wpAnyIn_ready (rs := [4]) (by kernel_rfl) (by simp) ?_
            refine AllReadyIn.cons rfl (fun K hK => ?_) AllReadyIn.nil
            rw [if_pos (by rfl)]
            refine wpIn_append_run (.tmp 10) (.tmp 13) 65 rfl hrun ?_
            refine hK _ _ ?_
            clear hK K
            refine wpAnyIn_ready (rs := [5]) (by kernel_rfl) (by simp) ?_
            refine AllReadyIn.cons rfl (fun K hK => ?_) AllReadyIn.nil
            go_simp
            refine hK _ _ ?_
            clear hK K
            refine wpAnyIn_done (by kernel_rfl) ?_ _
            gi_wp2_with fail
            exact ⟨HKA.out _ (fun k hk => by unfold TurnX at hk; omega), by show Gat _ _ _ (wordsOf _) _; rw [wordsOf_snoc, if_neg HNE.out]; exact HGA.out⟩
  case done =>
    rintro xs W hS ⟨⟨v, hv, ho⟩, hb⟩ hD
    have HD := hide hD
    have HE : Hid (wordsOf xs = Ld.words s) := by show _ = _; unfold wordsOf Ld.words; rw [hS]
    have HB := hide hb
    have HO := hide ho
    have c0 : W.cell? ⟨w.heap.size, 0, none⟩ = some v := by rw [Lib.cell_of_heap hv]; rfl
    have hlenx : xs.length ≤ 20001 := by
      have h1 := congrArg List.length hS
      have h2 := Ld.split_len 32 s
      rw [List.length_map] at h1
      omega
    obtain ⟨a, n, cc, hvs⟩ : ∃ a n c, v = .slice a n c := by
      rcases ho.2 with ⟨hv, _⟩ | ⟨g, cap, cur, hv, _⟩
      · exact ⟨_, _, _, hv⟩
      · exact ⟨_, _, _, hv⟩
    subst hvs
    clear hv ho hb hD hS
    gi_wp2_with fail
    refine ⟨by simp, .inl ⟨_, _, rfl, run_takeDeferred HD.out, ?_⟩⟩
    have hg := grownBy_putObj' W w1.heap.size (.deferred none)
    refine ⟨_, results_tmp rfl _ _ _, _, rfl, ?_, HB.out.grown hg (by have := (Array.getElem?_eq_some_iff.1 HD.out).1; omega) (fun k hk => by cases hk; omega)⟩
    rw [← HE.out]
    refine strs_of_row (HO.out.kept hg (by cases hvb : Value.ownBlock (.slice a n cc) with | none => exact .inl rfl | some k => right; intro e; have := (HO.out.lt k hvb).1; simp only [Option.some.injEq] at e; omega)) (Nat.le_trans (wordsOf_le xs) (by omega))
  case stop =>
    rintro pre W _ h _
    exact h.elim
end
end Go.Proofs.YtgldbliohpfljaaGreatDoor
