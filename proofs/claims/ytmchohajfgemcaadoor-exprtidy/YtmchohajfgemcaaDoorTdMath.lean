/-
  Plain mathematics of chapter 1: making an expression tidy (1.5). What is made tidy says the same, is no greater, and is tidy. Nothing of the program is named here.
-/
import Derived.Test.YtmchohajfgemcaaDoorExMath
namespace Go.Proofs.YtmchohajfgemcaaDoor
namespace Ex
/-- the other side -/
def other (x : Ex) : Ex := if x.kind = 5 then x.of.headD x else ⟨5, [], [x]⟩
def notT (t : Ex) : Ex := if t.kind = 0 then ⟨1, [], []⟩ else if t.kind = 1 then ⟨0, [], []⟩ else other t
/-- the constant that makes it all, and the one that is left out -/
def allK (k : Nat) : Nat := if k = 6 then 0 else 1
def noneK (k : Nat) : Nat := if k = 6 then 1 else 0
def pieces (k : Nat) (t : Ex) : List Ex := if t.kind = k then t.of else [t]
/-- what is no constant -/
def nc (L : List Ex) : List Ex := L.filter fun y => decide (2 ≤ y.kind)
open Classical in
/-- added where they don't stand yet -/
noncomputable def addAll : List Ex → List Ex → List Ex
  | acc, [] => acc
  | acc, y :: r => if y ∈ acc then addAll acc r else addAll (acc ++ [y]) r
/-- one decides it all -/
def dec (k : Nat) (L : List Ex) : Prop := (∃ y, y ∈ L ∧ y.kind = allK k) ∨ ∃ y, y ∈ nc L ∧ other y ∈ nc L
def wrap (k : Nat) : List Ex → Ex
  | [] => ⟨noneK k, [], []⟩
  | [p] => p
  | ps => ⟨k, [], ps⟩
open Classical in
noncomputable def gather (k : Nat) (L : List Ex) : Ex := if dec k L then ⟨allK k, [], []⟩ else wrap k (addAll [] (nc L))
noncomputable def tidy : Ex → Ex
  | ⟨5, _, l⟩ => notT ((l.map fun x => x.tidy).headD ⟨0, [], []⟩)
  | ⟨6, _, l⟩ => gather 6 (l.map fun x => pieces 6 x.tidy).flatten
  | ⟨7, _, l⟩ => gather 7 (l.map fun x => pieces 7 x.tidy).flatten
  | ⟨k, n, l⟩ => ⟨k, n, l⟩
theorem tidy5 (n : List UInt8) (y : Ex) : tidy ⟨5, n, [y]⟩ = notT y.tidy := by simp [tidy]
theorem tidy6 (n : List UInt8) (l : List Ex) : tidy ⟨6, n, l⟩ = gather 6 (l.map fun x => pieces 6 x.tidy).flatten := by simp [tidy]
theorem tidy7 (n : List UInt8) (l : List Ex) : tidy ⟨7, n, l⟩ = gather 7 (l.map fun x => pieces 7 x.tidy).flatten := by simp [tidy]
theorem tidy_leaf (k : Nat) (hk : k ≤ 4) (n : List UInt8) (l : List Ex) : tidy ⟨k, n, l⟩ = ⟨k, n, l⟩ := by
  match k, hk with
  | 0, _ => simp [tidy]
  | 1, _ => simp [tidy]
  | 2, _ => simp [tidy]
  | 3, _ => simp [tidy]
  | 4, _ => simp [tidy]
  | n + 5, h => omega
/-- the form of an expression -/
def Shape (k : Nat) (nm : List UInt8) (n : Nat) : Prop := (k ≤ 1 ∧ nm = [] ∧ n = 0) ∨ (2 ≤ k ∧ k ≤ 4 ∧ Nm.name nm = true ∧ n = 0) ∨ (k = 5 ∧ nm = [] ∧ n = 1) ∨ (6 ≤ k ∧ k ≤ 7 ∧ nm = [] ∧ 2 ≤ n)
def Wf : Ex → Prop
  | ⟨k, nm, l⟩ => Shape k nm l.length ∧ ∀ P, P ∈ (l.map fun y => Wf y) → P
theorem Wf.def (k : Nat) (nm : List UInt8) (l : List Ex) : Wf ⟨k, nm, l⟩ ↔ Shape k nm l.length ∧ ∀ y, y ∈ l → Wf y := by
  simp only [Wf]
  constructor
  · rintro ⟨h1, h2⟩
    exact ⟨h1, fun y hy => h2 _ (List.mem_map_of_mem hy)⟩
  · rintro ⟨h1, h2⟩
    refine ⟨h1, fun P hP => ?_⟩
    obtain ⟨y, hy, rfl⟩ := List.mem_map.1 hP
    exact h2 y hy
/-- an expression that is tidy -/
def Td : Ex → Prop
  | ⟨k, nm, l⟩ => Shape k nm l.length ∧ (∀ y, y ∈ l → 2 ≤ y.kind ∧ y.kind ≠ k) ∧ (6 ≤ k → l.Nodup ∧ ∀ y, y ∈ l → other y ∉ l) ∧ ∀ P, P ∈ (l.map fun y => Td y) → P
theorem Td.def (k : Nat) (nm : List UInt8) (l : List Ex) : Td ⟨k, nm, l⟩ ↔ Shape k nm l.length ∧ (∀ y, y ∈ l → 2 ≤ y.kind ∧ y.kind ≠ k) ∧ (6 ≤ k → l.Nodup ∧ ∀ y, y ∈ l → other y ∉ l) ∧ ∀ y, y ∈ l → Td y := by
  simp only [Td]
  constructor
  · rintro ⟨h1, h2, h3, h4⟩
    exact ⟨h1, h2, h3, fun y hy => h4 _ (List.mem_map_of_mem hy)⟩
  · rintro ⟨h1, h2, h3, h4⟩
    refine ⟨h1, h2, h3, fun P hP => ?_⟩
    obtain ⟨y, hy, rfl⟩ := List.mem_map.1 hP
    exact h4 y hy
theorem Td.const (k : Nat) (h : k ≤ 1) : Td ⟨k, [], []⟩ := by
  rw [Td.def]
  exact ⟨.inl ⟨h, rfl, rfl⟩, by simp, by simp, by simp⟩
theorem allK_le (k : Nat) : allK k ≤ 1 := by unfold allK; split <;> omega
theorem noneK_le (k : Nat) : noneK k ≤ 1 := by unfold noneK; split <;> omega
/-! what stands in a row to which others are added -/
theorem mem_addAll (x : Ex) : ∀ (L acc : List Ex), x ∈ addAll acc L ↔ x ∈ acc ∨ x ∈ L := by
  intro L
  induction L with
  | nil => intro acc; simp [addAll]
  | cons y r ih =>
    intro acc
    unfold addAll
    split
    · next h =>
      rw [ih, List.mem_cons]
      constructor
      · rintro (h1 | h1)
        · exact .inl h1
        · exact .inr (.inr h1)
      · rintro (h1 | h1 | h1)
        · exact .inl h1
        · subst h1; exact .inl h
        · exact .inr h1
    · rw [ih, List.mem_append, List.mem_singleton, List.mem_cons]
      constructor
      · rintro ((h1 | h1) | h1)
        · exact .inl h1
        · exact .inr (.inl h1)
        · exact .inr (.inr h1)
      · rintro (h1 | h1 | h1)
        · exact .inl (.inl h1)
        · exact .inl (.inr h1)
        · exact .inr h1
theorem addAll_append : ∀ (L M acc : List Ex), addAll acc (L ++ M) = addAll (addAll acc L) M := by
  intro L
  induction L with
  | nil => intro M acc; rfl
  | cons y r ih =>
    intro M acc
    rw [List.cons_append]
    by_cases h : y ∈ acc
    · rw [show addAll acc (y :: (r ++ M)) = addAll acc (r ++ M) by rw [addAll]; exact if_pos h, show addAll acc (y :: r) = addAll acc r by rw [addAll]; exact if_pos h]
      exact ih M acc
    · rw [show addAll acc (y :: (r ++ M)) = addAll (acc ++ [y]) (r ++ M) by rw [addAll]; exact if_neg h, show addAll acc (y :: r) = addAll (acc ++ [y]) r by rw [addAll]; exact if_neg h]
      exact ih M _
theorem addAll_skip : ∀ (L acc : List Ex), (∀ y, y ∈ L → y ∈ acc) → addAll acc L = acc := by
  intro L
  induction L with
  | nil => intro acc _; rfl
  | cons y r ih =>
    intro acc h
    rw [addAll, if_pos (h y (by simp))]
    exact ih acc fun z hz => h z (by simp [hz])
theorem addAll_one_mem (acc : List Ex) (y : Ex) (h : y ∈ acc) : addAll acc [y] = acc := addAll_skip [y] acc (by simpa using h)
theorem addAll_one_new (acc : List Ex) (y : Ex) (h : y ∉ acc) : addAll acc [y] = acc ++ [y] := by rw [addAll, if_neg h]; rfl
/-- to add what another row has come to is to add what it came of -/
theorem addAll_addAll : ∀ (L acc u : List Ex), addAll acc (addAll u L) = addAll (addAll acc u) L := by
  intro L
  induction L with
  | nil => intro acc u; rfl
  | cons y r ih =>
    intro acc u
    by_cases h : y ∈ u
    · rw [show addAll u (y :: r) = addAll u r by rw [addAll]; exact if_pos h, ih,
        show addAll (addAll acc u) (y :: r) = addAll (addAll acc u) r by rw [addAll]; exact if_pos ((mem_addAll _ _ _).2 (.inr h))]
    · rw [show addAll u (y :: r) = addAll (u ++ [y]) r by rw [addAll]; exact if_neg h, ih, addAll_append]
      exact (addAll_append [y] r _).symm
theorem addAll_nodup : ∀ (L acc : List Ex), acc.Nodup → (addAll acc L).Nodup := by
  intro L
  induction L with
  | nil => intro acc h; exact h
  | cons y r ih =>
    intro acc h
    by_cases hy : y ∈ acc
    · rw [addAll, if_pos hy]; exact ih acc h
    · rw [addAll, if_neg hy]
      refine ih _ ?_
      rw [List.nodup_append]
      refine ⟨h, by simp, ?_⟩
      intro a ha b hb
      simp only [List.mem_singleton] at hb
      subst hb
      intro e
      exact hy (e ▸ ha)
theorem addAll_self : ∀ (L acc : List Ex), (acc ++ L).Nodup → addAll acc L = acc ++ L := by
  intro L
  induction L with
  | nil => intro acc _; simp [addAll]
  | cons y r ih =>
    intro acc h
    have hy : y ∉ acc := by
      intro hy
      rw [List.nodup_append] at h
      exact h.2.2 y hy y (by simp) rfl
    rw [addAll, if_neg hy, ih _ (by simpa using h)]
    simp
theorem addAll_sum : ∀ (L acc : List Ex), ((addAll acc L).map fun x => x.size).sum ≤ (acc.map fun x => x.size).sum + (L.map fun x => x.size).sum := by
  intro L
  induction L with
  | nil => intro acc; simp [addAll]
  | cons y r ih =>
    intro acc
    by_cases hy : y ∈ acc
    · rw [addAll, if_pos hy]
      have := ih acc
      simp only [List.map_cons, List.sum_cons]
      omega
    · rw [addAll, if_neg hy]
      have := ih (acc ++ [y])
      simp only [List.map_append, List.sum_append, List.map_cons, List.map_nil, List.sum_cons, List.sum_nil] at *
      omega
theorem mem_nc (y : Ex) (L : List Ex) : y ∈ nc L ↔ y ∈ L ∧ 2 ≤ y.kind := by unfold nc; rw [List.mem_filter]; simp
theorem nc_append (A B : List Ex) : nc (A ++ B) = nc A ++ nc B := by unfold nc; exact List.filter_append _ _
theorem nc_self (L : List Ex) (h : ∀ y, y ∈ L → 2 ≤ y.kind) : nc L = L := by
  unfold nc
  rw [List.filter_eq_self]
  intro y hy
  exact decide_eq_true (h y hy)
theorem wrap_many (k : Nat) (L : List Ex) (h : 2 ≤ L.length) : wrap k L = ⟨k, [], L⟩ := by
  match L, h with
  | a :: b :: r, _ => rfl
theorem dec_mono (k : Nat) (A S B : List Ex) (h : dec k S) : dec k (A ++ S ++ B) := by
  rcases h with ⟨y, hy, e⟩ | ⟨y, hy, ho⟩
  · exact .inl ⟨y, by simp [hy], e⟩
  · refine .inr ⟨y, ?_, ?_⟩
    · rw [mem_nc] at *; exact ⟨by simp [hy.1], hy.2⟩
    · rw [mem_nc] at *; exact ⟨by simp [ho.1], ho.2⟩
theorem gather_dec (k : Nat) (L : List Ex) (h : dec k L) : gather k L = ⟨allK k, [], []⟩ := by unfold gather; rw [if_pos h]
theorem gather_not (k : Nat) (L : List Ex) (h : ¬ dec k L) : gather k L = wrap k (addAll [] (nc L)) := by unfold gather; rw [if_neg h]
/-- two rows with the same in them, where it decides nothing else -/
theorem gather_congr (k : Nat) (L M : List Ex) (h1 : (∃ y, y ∈ L ∧ y.kind = allK k) ↔ ∃ y, y ∈ M ∧ y.kind = allK k) (h2 : ∀ y, y ∈ nc L ↔ y ∈ nc M) (h3 : addAll [] (nc L) = addAll [] (nc M)) : gather k L = gather k M := by
  have hd : dec k L ↔ dec k M := by
    unfold dec
    rw [h1]
    constructor
    · rintro (h | ⟨y, hy, ho⟩)
      · exact .inl h
      · exact .inr ⟨y, (h2 y).1 hy, (h2 _).1 ho⟩
    · rintro (h | ⟨y, hy, ho⟩)
      · exact .inl h
      · exact .inr ⟨y, (h2 y).2 hy, (h2 _).2 ho⟩
  by_cases h : dec k L
  · rw [gather_dec k L h, gather_dec k M (hd.1 h)]
  · rw [gather_not k L h, gather_not k M (fun e => h (hd.2 e)), h3]
theorem none_ne_all (k : Nat) : noneK k ≠ allK k := by unfold noneK allK; split <;> omega
/-- what is gathered on its own, and then taken in, is as if it had been gathered at once -/
theorem gather_in (k : Nat) (hk : 6 ≤ k) (A S B : List Ex) (hS : ∀ y, y ∈ S → y.kind ≠ k) : gather k (A ++ pieces k (gather k S) ++ B) = gather k (A ++ S ++ B) := by
  by_cases hd : dec k S
  · rw [gather_dec k S hd]
    have hp : pieces k (⟨allK k, [], []⟩ : Ex) = [⟨allK k, [], []⟩] := by
      unfold pieces
      rw [if_neg]
      show allK k ≠ k
      have := allK_le k
      omega
    rw [hp, gather_dec k (A ++ S ++ B) (dec_mono k A S B hd), gather_dec]
    exact .inl ⟨⟨allK k, [], []⟩, by simp, rfl⟩
  · rw [gather_not k S hd]
    obtain ⟨P, hP⟩ : ∃ P, P = pieces k (wrap k (addAll [] (nc S))) := ⟨_, rfl⟩
    rw [← hP]
    have hSa : ∀ y, y ∈ S → y.kind ≠ allK k := fun y hy e => hd (.inl ⟨y, hy, e⟩)
    have hu : ∀ y, y ∈ addAll [] (nc S) → 2 ≤ y.kind ∧ y.kind ≠ k := fun y hy => by
      rw [mem_addAll] at hy
      rcases hy with hy | hy
      · simp at hy
      · exact ⟨((mem_nc y S).1 hy).2, hS y ((mem_nc y S).1 hy).1⟩
    have hPn : nc P = addAll [] (nc S) ∧ ∀ y, y ∈ P → y.kind ≠ allK k := by
      rw [hP]
      generalize addAll [] (nc S) = U at *
      match U, hu with
      | [], _ =>
        have hp : pieces k (wrap k []) = [⟨noneK k, [], []⟩] := by
          unfold pieces wrap
          rw [if_neg]
          show noneK k ≠ k
          have := noneK_le k
          omega
        rw [hp]
        refine ⟨?_, ?_⟩
        · unfold nc
          rw [List.filter_cons, if_neg]
          · rfl
          · have := noneK_le k
            simp
            omega
        · intro y hy
          simp only [List.mem_singleton] at hy
          subst hy
          exact none_ne_all k
      | [p], hu =>
        have hp : pieces k (wrap k [p]) = [p] := by
          unfold pieces wrap
          rw [if_neg (hu p (by simp)).2]
        rw [hp]
        refine ⟨nc_self _ fun y hy => (hu y hy).1, fun y hy => ?_⟩
        have := (hu y hy).1
        have := allK_le k
        omega
      | a :: b :: r, hu =>
        have hp : pieces k (wrap k (a :: b :: r)) = a :: b :: r := by
          unfold pieces wrap
          rw [if_pos rfl]
        rw [hp]
        refine ⟨nc_self _ fun y hy => (hu y hy).1, fun y hy => ?_⟩
        have := (hu y hy).1
        have := allK_le k
        omega
    refine gather_congr k _ _ ?_ ?_ ?_
    · constructor
      · rintro ⟨y, hy, e⟩
        simp only [List.mem_append] at hy
        rcases hy with (hy | hy) | hy
        · exact ⟨y, by simp [hy], e⟩
        · exact absurd e (hPn.2 y hy)
        · exact ⟨y, by simp [hy], e⟩
      · rintro ⟨y, hy, e⟩
        simp only [List.mem_append] at hy
        rcases hy with (hy | hy) | hy
        · exact ⟨y, by simp [hy], e⟩
        · exact absurd e (hSa y hy)
        · exact ⟨y, by simp [hy], e⟩
    · intro y
      rw [nc_append, nc_append, nc_append, nc_append, hPn.1]
      simp only [List.mem_append, mem_addAll]
      simp
    · rw [nc_append, nc_append, nc_append, nc_append, hPn.1, addAll_append, addAll_append, addAll_addAll, addAll_append, addAll_append]
      congr 1
end Ex
end Go.Proofs.YtmchohajfgemcaaDoor
