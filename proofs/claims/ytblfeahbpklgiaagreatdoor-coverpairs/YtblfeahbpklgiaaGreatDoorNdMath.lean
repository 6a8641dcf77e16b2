/-
  Plain mathematics of chapter 1: names put one by one where they belong are the names in order, each once.
-/
import Derived.Test.YtblfeahbpklgiaaGreatDoorNaOrder
namespace Go.Proofs.YtblfeahbpklgiaaGreatDoor
theorem LU.tri (a b : List UInt8) (h : ¬ a < b) (hn : a ≠ b) : b < a := by
  rcases List.le_iff_lt_or_eq.1 (List.not_lt.1 h) with h1 | h1
  · exact h1
  · exact absurd h1.symm hn
theorem LU.trans {a b c : List UInt8} (h : a < b) (k : b < c) : a < c := List.lt_trans h k
theorem LU.irrefl (a : List UInt8) : ¬ a < a := List.lt_irrefl a
/-- a name put where it belongs -/
def ins : List (List UInt8) → List UInt8 → List (List UInt8)
  | [], n => [n]
  | a :: r, n => if a < n then a :: ins r n else if a = n then a :: r else n :: a :: r
theorem mem_ins (n x : List UInt8) : ∀ l, x ∈ ins l n ↔ x = n ∨ x ∈ l := by
  intro l
  induction l with
  | nil => simp [ins]
  | cons a r ih =>
    unfold ins
    split
    · rw [List.mem_cons, ih, List.mem_cons]
      constructor
      · rintro (h | h | h)
        · exact .inr (.inl h)
        · exact .inl h
        · exact .inr (.inr h)
      · rintro (h | h | h)
        · exact .inr (.inl h)
        · exact .inl h
        · exact .inr (.inr h)
    · split
      · next h => subst h; simp
      · simp
theorem ins_sorted (n : List UInt8) : ∀ l : List (List UInt8), l.Pairwise (· < ·) → (ins l n).Pairwise (· < ·) := by
  intro l
  induction l with
  | nil => simp [ins]
  | cons a r ih =>
    intro h
    rw [List.pairwise_cons] at h
    unfold ins
    split
    · next h1 =>
      rw [List.pairwise_cons]
      refine ⟨fun x hx => ?_, ih h.2⟩
      rcases (mem_ins n x r).1 hx with rfl | hx
      · exact h1
      · exact h.1 x hx
    · next h1 =>
      split
      · rw [List.pairwise_cons]; exact h
      · next h2 =>
        have h3 := LU.tri a n h1 h2
        rw [List.pairwise_cons]
        refine ⟨fun x hx => ?_, by rw [List.pairwise_cons]; exact h⟩
        rcases List.mem_cons.1 hx with rfl | hx
        · exact h3
        · exact LU.trans h3 (h.1 x hx)
/-- where it is put -/
theorem ins_at (n : List UInt8) : ∀ (l : List (List UInt8)) (k : Nat), k ≤ l.length → (∀ j, j < k → ∀ y, l[j]? = some y → y < n) → (∀ y, l[k]? = some y → ¬ y < n) →
    ins l n = if l[k]? = some n then l else l.take k ++ n :: l.drop k := by
  intro l
  induction l with
  | nil =>
    intro k hk _ _
    simp [ins]
  | cons a r ih =>
    intro k hk h1 h2
    match k, hk, h1, h2 with
    | 0, _, _, h2 =>
      have h3 := h2 a rfl
      unfold ins
      rw [if_neg h3]
      by_cases h4 : a = n
      · subst h4; simp
      · rw [if_neg h4, if_neg (by simpa using h4)]; rfl
    | k + 1, hk, h1, h2 =>
      have h3 := h1 0 (by omega) a rfl
      unfold ins
      rw [if_pos h3, ih k (by simpa using hk) (fun j hj y hy => h1 (j + 1) (by omega) y (by simpa using hy)) (fun y hy => h2 y (by simpa using hy))]
      simp only [List.getElem?_cons_succ, List.take_succ_cons, List.drop_succ_cons, List.cons_append]
      split <;> rfl
theorem ins_len (n : List UInt8) : ∀ l, (ins l n).length ≤ l.length + 1 := by
  intro l
  induction l with
  | nil => simp [ins]
  | cons a r ih =>
    unfold ins
    split
    · simp only [List.length_cons]; omega
    · split <;> simp only [List.length_cons] <;> omega
def insAll (l ns : List (List UInt8)) : List (List UInt8) := ns.foldl ins l
theorem insAll_append (l a b : List (List UInt8)) : insAll l (a ++ b) = insAll (insAll l a) b := by simp [insAll]
theorem insAll_len (ns : List (List UInt8)) : ∀ l, (insAll l ns).length ≤ l.length + ns.length := by
  induction ns with
  | nil => intro l; simp [insAll]
  | cons a r ih =>
    intro l
    have h1 := ih (ins l a)
    have h2 := ins_len a l
    simp only [insAll, List.foldl_cons, List.length_cons] at *
    omega
theorem mem_insAll (x : List UInt8) (ns : List (List UInt8)) : ∀ l, x ∈ insAll l ns ↔ x ∈ l ∨ x ∈ ns := by
  induction ns with
  | nil => intro l; simp [insAll]
  | cons a r ih =>
    intro l
    have h1 := ih (ins l a)
    simp only [insAll, List.foldl_cons] at *
    rw [h1, mem_ins, List.mem_cons]
    constructor
    · rintro ((h | h) | h)
      · exact .inr (.inl h)
      · exact .inl h
      · exact .inr (.inr h)
    · rintro (h | h | h)
      · exact .inl (.inr h)
      · exact .inl (.inl h)
      · exact .inr h
theorem insAll_sorted (ns : List (List UInt8)) : ∀ l : List (List UInt8), l.Pairwise (· < ·) → (insAll l ns).Pairwise (· < ·) := by
  induction ns with
  | nil => intro l h; exact h
  | cons a r ih =>
    intro l h
    exact ih (ins l a) (ins_sorted a l h)
/-- two rows in order with the same in them are one -/
theorem sorted_ext : ∀ (a b : List (List UInt8)), a.Pairwise (· < ·) → b.Pairwise (· < ·) → (∀ x, x ∈ a ↔ x ∈ b) → a = b := by
  intro a
  induction a with
  | nil =>
    intro b _ _ h
    match b, h with
    | [], _ => rfl
    | y :: s, h => exact absurd ((h y).2 (by simp)) (by simp)
  | cons x r ih =>
    intro b ha hb h
    match b, hb, h with
    | [], _, h => exact absurd ((h x).1 (by simp)) (by simp)
    | y :: s, hb, h =>
      rw [List.pairwise_cons] at ha hb
      have hxy : x = y := by
        rcases List.mem_cons.1 ((h x).1 (by simp)) with h1 | h1
        · exact h1
        · rcases List.mem_cons.1 ((h y).2 (by simp)) with h2 | h2
          · exact h2.symm
          · exact absurd (LU.trans (hb.1 x h1) (ha.1 y h2)) (LU.irrefl y)
      subst hxy
      rw [ih s ha.2 hb.2 fun z => ?_]
      constructor
      · intro hz
        rcases List.mem_cons.1 ((h z).1 (List.mem_cons_of_mem _ hz)) with h1 | h1
        · subst h1; exact absurd (ha.1 z hz) (LU.irrefl z)
        · exact h1
      · intro hz
        rcases List.mem_cons.1 ((h z).2 (List.mem_cons_of_mem _ hz)) with h1 | h1
        · subst h1; exact absurd (hb.1 z hz) (LU.irrefl z)
        · exact h1
theorem compactUpTo_sorted (d : Array (List UInt8)) (hd : ∀ i j, i < j → j < d.size → d[i]! ≤ d[j]!) : ∀ m, m ≤ d.size → (Lib.compactUpTo d m).Pairwise (· < ·) := by
  intro m
  induction m with
  | zero => intro _; simp [Lib.compactUpTo]
  | succ m ih =>
    intro hm
    rw [Lib.compactUpTo_succ, List.pairwise_append]
    refine ⟨ih (by omega), by split <;> simp, ?_⟩
    intro x hx y hy
    by_cases hk : Lib.keeps d m = true
    · rw [if_pos hk] at hy
      have hy := List.mem_singleton.1 hy
      subst hy
      unfold Lib.compactUpTo at hx
      rw [List.mem_map] at hx
      obtain ⟨i, hi, rfl⟩ := hx
      rw [List.mem_filter] at hi
      have him : i < m := List.mem_range.1 hi.1
      obtain ⟨m', rfl⟩ : ∃ m', m = m' + 1 := ⟨m - 1, by omega⟩
      have h1 : d[i]! ≤ d[m']! := by
        by_cases e : i = m'
        · subst e; exact List.le_refl _
        · exact hd i m' (by omega) (by omega)
      have h2 : d[m']! ≤ d[m' + 1]! := hd _ _ (by omega) (by omega)
      have h3 : d[m' + 1]! ≠ d[m']! := by
        intro e
        simp [Lib.keeps, e] at hk
      rcases List.le_iff_lt_or_eq.1 h2 with h4 | h4
      · rcases List.le_iff_lt_or_eq.1 h1 with h5 | h5
        · exact LU.trans h5 h4
        · rw [h5]; exact h4
      · exact absurd h4.symm h3
    · rw [if_neg hk] at hy
      simp at hy
theorem ordered_sorted (ns : List (List UInt8)) : (ordered ns).Pairwise (· < ·) := by
  unfold ordered Lib.compact
  have hp := List.pairwise_mergeSort (le := fun x y : List UInt8 => decide (x ≤ y)) (fun a b c h1 h2 => decide_eq_true (List.le_trans (of_decide_eq_true h1) (of_decide_eq_true h2))) (fun a b => by
    rcases List.le_total a b with h | h
    · simp [h]
    · simp [h]) ns
  refine compactUpTo_sorted _ (fun i j hij hj => ?_) _ (by simp)
  rw [List.pairwise_iff_getElem] at hp
  have hj2 : j < (ns.mergeSort fun x y => decide (x ≤ y)).length := by simpa using hj
  have := hp i j (by omega) hj2 hij
  rw [getElem!_pos _ i (by simpa using (by omega : i < (ns.mergeSort fun x y => decide (x ≤ y)).length)), getElem!_pos _ j hj]
  simpa using of_decide_eq_true this
/-- put one by one, they are in order, each once -/
theorem insAll_ordered (ns : List (List UInt8)) : insAll [] ns = ordered ns :=
  sorted_ext _ _ (insAll_sorted ns [] List.Pairwise.nil) (ordered_sorted ns) fun x => by rw [mem_insAll, mem_ordered]; simp
end Go.Proofs.YtblfeahbpklgiaaGreatDoor
