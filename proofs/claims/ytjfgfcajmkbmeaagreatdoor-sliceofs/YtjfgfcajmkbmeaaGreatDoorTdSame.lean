/-
  Plain mathematics of chapter 1: making an expression tidy (1.5). What is made tidy says the same, is no greater, and is tidy. Nothing of the program is named here. Plain mathematics of chapter 1: what is made tidy is tidy, says the same, and is no greater; and the program's own way of gathering comes to the same. Nothing of the program is named here.
-/
import Derived.Test.YtjfgfcajmkbmeaaGreatDoorLdRepAll
import Derived.Test.YtjfgfcajmkbmeaaGreatDoorRtBoundAll
namespace Go.Proofs.YtjfgfcajmkbmeaaGreatDoor
namespace Ex
/-- the other side -/
def other (x : Ex) : Ex := if x.kind = 5 then x.of.headD x else ⟨5, [], [x]⟩
def notT (t : Ex) : Ex := if t.kind = 0 then ⟨1, [], []⟩ else if t.kind = 1 then ⟨0, [], []⟩ else other t
/-- the constant that makes it all, and the one that is left out -/
def allK (k : Nat) : Nat := if k = 6 then 0 else 1
def noneK (k : Nat) : Nat := if k = 6 then 1 else 0
def pieces (k : Nat) (t : Ex) : List Ex := if t.kind = k then t.of else [t]
/-- what is no constant -/
def nc (L : List Ex) : List Ex := L.filter fun y => decide (2 ≤ y.kind)
/-- are they, one by one, those? -/
def eqs : List (Ex → Bool) → List Ex → Bool
  | [], [] => true
  | f :: fs, y :: ys => f y && eqs fs ys
  | _, _ => false
/-- are two expressions one? -/
def same : Ex → Ex → Bool
  | ⟨k, n, l⟩ => fun y => decide (k = y.kind) && decide (n = y.name) && eqs (l.map fun x => same x) y.of
theorem eqs_iff : ∀ (l r : List Ex), (∀ x, x ∈ l → ∀ y, same x y = true ↔ x = y) → (eqs (l.map fun x => same x) r = true ↔ l = r) := by
  intro l
  induction l with
  | nil =>
    intro r _
    cases r with
    | nil => simp [eqs]
    | cons b s => simp [eqs]
  | cons a t ih =>
    intro r h
    cases r with
    | nil => simp [eqs]
    | cons b s =>
      have h1 := h a (by simp) b
      have h2 := ih s fun x hx => h x (by simp [hx])
      simp only [List.map_cons, eqs, Bool.and_eq_true, h1, h2, List.cons.injEq]
theorem same_iff (x : Ex) : ∀ y, same x y = true ↔ x = y := by
  induction x using Ex.ind with
  | h k n l ih =>
    intro y
    obtain ⟨j, m, r⟩ := y
    have h1 := eqs_iff l r ih
    simp only [same, Bool.and_eq_true, decide_eq_true_eq, h1, Ex.mk.injEq]
    exact ⟨fun h => ⟨h.1.1, h.1.2, h.2⟩, fun h => ⟨⟨h.1, h.2.1⟩, h.2.2⟩⟩
theorem any_same (y : Ex) (l : List Ex) : (l.any fun z => same y z) = true ↔ y ∈ l := by
  rw [List.any_eq_true]
  constructor
  · rintro ⟨z, hz, e⟩; rw [(same_iff y z).1 e]; exact hz
  · intro h; exact ⟨y, h, (same_iff y y).2 rfl⟩
/-- does an expression stand in a row? -/
def decMem (y : Ex) (l : List Ex) : Decidable (y ∈ l) := if h : (l.any fun z => same y z) = true then isTrue ((any_same y l).1 h) else isFalse fun e => h ((any_same y l).2 e)
/-- added where they don't stand yet -/
def addAll : List Ex → List Ex → List Ex
  | acc, [] => acc
  | acc, y :: r => @ite _ (y ∈ acc) (decMem y acc) (addAll acc r) (addAll (acc ++ [y]) r)
/-- one decides it all -/
def dec (k : Nat) (L : List Ex) : Prop := (∃ y, y ∈ L ∧ y.kind = allK k) ∨ ∃ y, y ∈ nc L ∧ other y ∈ nc L
def wrap (k : Nat) : List Ex → Ex
  | [] => ⟨noneK k, [], []⟩
  | [p] => p
  | ps => ⟨k, [], ps⟩
def decB (k : Nat) (L : List Ex) : Bool := (L.any fun y => decide (y.kind = allK k)) || (nc L).any fun y => (nc L).any fun z => same (other y) z
theorem decB_iff (k : Nat) (L : List Ex) : decB k L = true ↔ dec k L := by
  unfold decB dec
  rw [Bool.or_eq_true, List.any_eq_true, List.any_eq_true]
  constructor
  · rintro (⟨y, hy, e⟩ | ⟨y, hy, e⟩)
    · exact .inl ⟨y, hy, of_decide_eq_true e⟩
    · exact .inr ⟨y, hy, (any_same _ _).1 e⟩
  · rintro (⟨y, hy, e⟩ | ⟨y, hy, e⟩)
    · exact .inl ⟨y, hy, decide_eq_true e⟩
    · exact .inr ⟨y, hy, (any_same _ _).2 e⟩
def decDec (k : Nat) (L : List Ex) : Decidable (dec k L) := if h : decB k L = true then isTrue ((decB_iff k L).1 h) else isFalse fun e => h ((decB_iff k L).2 e)
def gather (k : Nat) (L : List Ex) : Ex := @ite _ (dec k L) (decDec k L) ⟨allK k, [], []⟩ (wrap k (addAll [] (nc L)))
def tidy : Ex → Ex
  | ⟨5, _, l⟩ => notT ((l.map fun x => x.tidy).headD ⟨0, [], []⟩)
  | ⟨6, _, l⟩ => gather 6 (l.map fun x => pieces 6 x.tidy).flatten
  | ⟨7, _, l⟩ => gather 7 (l.map fun x => pieces 7 x.tidy).flatten
  | ⟨k, n, l⟩ => ⟨k, n, l⟩
theorem tidy5 (n : List UInt8) (y : Ex) : tidy ⟨5, n, [y]⟩ = notT y.tidy := by simp [tidy]
theorem tidy6 (n : List UInt8) (l : List Ex) : tidy ⟨6, n, l⟩ = gather 6 (l.map fun x => pieces 6 x.tidy).flatten := by simp [tidy]
theorem tidy7 (n : List UInt8) (l : List Ex) : tidy ⟨7, n, l⟩ = gather 7 (l.map fun x => pieces 7 x.tidy).flatten := by simp [tidy]
theorem tidy_leaf (k : Nat) (hk : k ≤ 4) (n : List UInt8) (l : List Ex) : tidy ⟨k, n, l⟩ = ⟨k, n, l⟩ := by
  match k, hk with
  | 0, _ => simp [tidy]
  | 1, _ => simp [tidy]
  | 2, _ => simp [tidy]
  | 3, _ => simp [tidy]
  | 4, _ => simp [tidy]
  | n + 5, h => omega
/-- the form of an expression -/
def Shape (k : Nat) (nm : List UInt8) (n : Nat) : Prop := (k ≤ 1 ∧ nm = [] ∧ n = 0) ∨ (2 ≤ k ∧ k ≤ 4 ∧ Nm.name nm = true ∧ n = 0) ∨ (k = 5 ∧ nm = [] ∧ n = 1) ∨ (6 ≤ k ∧ k ≤ 7 ∧ nm = [] ∧ 2 ≤ n)
def Wf : Ex → Prop
  | ⟨k, nm, l⟩ => Shape k nm l.length ∧ ∀ P, P ∈ (l.map fun y => Wf y) → P
theorem Wf.def (k : Nat) (nm : List UInt8) (l : List Ex) : Wf ⟨k, nm, l⟩ ↔ Shape k nm l.length ∧ ∀ y, y ∈ l → Wf y := by
  simp only [Wf]
  constructor
  · rintro ⟨h1, h2⟩
    exact ⟨h1, fun y hy => h2 _ (List.mem_map_of_mem hy)⟩
  · rintro ⟨h1, h2⟩
    refine ⟨h1, fun P hP => ?_⟩
    obtain ⟨y, hy, rfl⟩ := List.mem_map.1 hP
    exact h2 y hy
/-- an expression that is tidy -/
def Td : Ex → Prop
  | ⟨k, nm, l⟩ => Shape k nm l.length ∧ (∀ y, y ∈ l → 2 ≤ y.kind ∧ y.kind ≠ k) ∧ (6 ≤ k → l.Nodup ∧ ∀ y, y ∈ l → other y ∉ l) ∧ ∀ P, P ∈ (l.map fun y => Td y) → P
theorem Td.def (k : Nat) (nm : List UInt8) (l : List Ex) : Td ⟨k, nm, l⟩ ↔ Shape k nm l.length ∧ (∀ y, y ∈ l → 2 ≤ y.kind ∧ y.kind ≠ k) ∧ (6 ≤ k → l.Nodup ∧ ∀ y, y ∈ l → other y ∉ l) ∧ ∀ y, y ∈ l → Td y := by
  simp only [Td]
  constructor
  · rintro ⟨h1, h2, h3, h4⟩
    exact ⟨h1, h2, h3, fun y hy => h4 _ (List.mem_map_of_mem hy)⟩
  · rintro ⟨h1, h2, h3, h4⟩
    refine ⟨h1, h2, h3, fun P hP => ?_⟩
    obtain ⟨y, hy, rfl⟩ := List.mem_map.1 hP
    exact h4 y hy
theorem Td.const (k : Nat) (h : k ≤ 1) : Td ⟨k, [], []⟩ := by
  rw [Td.def]
  exact ⟨.inl ⟨h, rfl, rfl⟩, by simp, by simp, by simp⟩
theorem allK_le (k : Nat) : allK k ≤ 1 := by unfold allK; split <;> omega
theorem noneK_le (k : Nat) : noneK k ≤ 1 := by unfold noneK; split <;> omega
/-! what stands in a row to which others are added -/
theorem mem_addAll (x : Ex) : ∀ (L acc : List Ex), x ∈ addAll acc L ↔ x ∈ acc ∨ x ∈ L := by
  intro L
  induction L with
  | nil => intro acc; simp [addAll]
  | cons y r ih =>
    intro acc
    unfold addAll
    split
    · next h =>
      rw [ih, List.mem_cons]
      constructor
      · rintro (h1 | h1)
        · exact .inl h1
        · exact .inr (.inr h1)
      · rintro (h1 | h1 | h1)
        · exact .inl h1
        · subst h1; exact .inl h
        · exact .inr h1
    · rw [ih, List.mem_append, List.mem_singleton, List.mem_cons]
      constructor
      · rintro ((h1 | h1) | h1)
        · exact .inl h1
        · exact .inr (.inl h1)
        · exact .inr (.inr h1)
      · rintro (h1 | h1 | h1)
        · exact .inl (.inl h1)
        · exact .inl (.inr h1)
        · exact .inr h1
theorem addAll_append : ∀ (L M acc : List Ex), addAll acc (L ++ M) = addAll (addAll acc L) M := by
  intro L
  induction L with
  | nil => intro M acc; rfl
  | cons y r ih =>
    intro M acc
    rw [List.cons_append]
    by_cases h : y ∈ acc
    · rw [show addAll acc (y :: (r ++ M)) = addAll acc (r ++ M) by rw [addAll]; exact if_pos h, show addAll acc (y :: r) = addAll acc r by rw [addAll]; exact if_pos h]
      exact ih M acc
    · rw [show addAll acc (y :: (r ++ M)) = addAll (acc ++ [y]) (r ++ M) by rw [addAll]; exact if_neg h, show addAll acc (y :: r) = addAll (acc ++ [y]) r by rw [addAll]; exact if_neg h]
      exact ih M _
theorem addAll_skip : ∀ (L acc : List Ex), (∀ y, y ∈ L → y ∈ acc) → addAll acc L = acc := by
  intro L
  induction L with
  | nil => intro acc _; rfl
  | cons y r ih =>
    intro acc h
    rw [addAll, if_pos (h y (by simp))]
    exact ih acc fun z hz => h z (by simp [hz])
theorem addAll_one_mem (acc : List Ex) (y : Ex) (h : y ∈ acc) : addAll acc [y] = acc := addAll_skip [y] acc (by simpa using h)
theorem addAll_one_new (acc : List Ex) (y : Ex) (h : y ∉ acc) : addAll acc [y] = acc ++ [y] := by rw [addAll, if_neg h]; rfl
/-- to add what another row has come to is to add what it came of -/
theorem addAll_addAll : ∀ (L acc u : List Ex), addAll acc (addAll u L) = addAll (addAll acc u) L := by
  intro L
  induction L with
  | nil => intro acc u; rfl
  | cons y r ih =>
    intro acc u
    by_cases h : y ∈ u
    · rw [show addAll u (y :: r) = addAll u r by rw [addAll]; exact if_pos h, ih,
        show addAll (addAll acc u) (y :: r) = addAll (addAll acc u) r by rw [addAll]; exact if_pos ((mem_addAll _ _ _).2 (.inr h))]
    · rw [show addAll u (y :: r) = addAll (u ++ [y]) r by rw [addAll]; exact if_neg h, ih, addAll_append]
      exact (addAll_append [y] r _).symm
theorem addAll_nodup : ∀ (L acc : List Ex), acc.Nodup → (addAll acc L).Nodup := by
  intro L
  induction L with
  | nil => intro acc h; exact h
  | cons y r ih =>
    intro acc h
    by_cases hy : y ∈ acc
    · rw [addAll, if_pos hy]; exact ih acc h
    · rw [addAll, if_neg hy]
      refine ih _ ?_
      rw [List.nodup_append]
      refine ⟨h, by simp, ?_⟩
      intro a ha b hb
      simp only [List.mem_singleton] at hb
      subst hb
      intro e
      exact hy (e ▸ ha)
theorem addAll_self : ∀ (L acc : List Ex), (acc ++ L).Nodup → addAll acc L = acc ++ L := by
  intro L
  induction L with
  | nil => intro acc _; simp [addAll]
  | cons y r ih =>
    intro acc h
    have hy : y ∉ acc := by
      intro hy
      rw [List.nodup_append] at h
      exact h.2.2 y hy y (by simp) rfl
    rw [addAll, if_neg hy, ih _ (by simpa using h)]
    simp
theorem addAll_sum : ∀ (L acc : List Ex), ((addAll acc L).map fun x => x.size).sum ≤ (acc.map fun x => x.size).sum + (L.map fun x => x.size).sum := by
  intro L
  induction L with
  | nil => intro acc; simp [addAll]
  | cons y r ih =>
    intro acc
    by_cases hy : y ∈ acc
    · rw [addAll, if_pos hy]
      have := ih acc
      simp only [List.map_cons, List.sum_cons]
      omega
    · rw [addAll, if_neg hy]
      have := ih (acc ++ [y])
      simp only [List.map_append, List.sum_append, List.map_cons, List.map_nil, List.sum_cons, List.sum_nil] at *
      omega
theorem mem_nc (y : Ex) (L : List Ex) : y ∈ nc L ↔ y ∈ L ∧ 2 ≤ y.kind := by unfold nc; rw [List.mem_filter]; simp
theorem nc_append (A B : List Ex) : nc (A ++ B) = nc A ++ nc B := by unfold nc; exact List.filter_append _ _
theorem nc_self (L : List Ex) (h : ∀ y, y ∈ L → 2 ≤ y.kind) : nc L = L := by
  unfold nc
  rw [List.filter_eq_self]
  intro y hy
  exact decide_eq_true (h y hy)
theorem wrap_many (k : Nat) (L : List Ex) (h : 2 ≤ L.length) : wrap k L = ⟨k, [], L⟩ := by
  match L, h with
  | a :: b :: r, _ => rfl
theorem dec_mono (k : Nat) (A S B : List Ex) (h : dec k S) : dec k (A ++ S ++ B) := by
  rcases h with ⟨y, hy, e⟩ | ⟨y, hy, ho⟩
  · exact .inl ⟨y, by simp [hy], e⟩
  · refine .inr ⟨y, ?_, ?_⟩
    · rw [mem_nc] at *; exact ⟨by simp [hy.1], hy.2⟩
    · rw [mem_nc] at *; exact ⟨by simp [ho.1], ho.2⟩
theorem gather_dec (k : Nat) (L : List Ex) (h : dec k L) : gather k L = ⟨allK k, [], []⟩ := by unfold gather; rw [if_pos h]
theorem gather_not (k : Nat) (L : List Ex) (h : ¬ dec k L) : gather k L = wrap k (addAll [] (nc L)) := by unfold gather; rw [if_neg h]
/-- two rows with the same in them, where it decides nothing else -/
theorem gather_congr (k : Nat) (L M : List Ex) (h1 : (∃ y, y ∈ L ∧ y.kind = allK k) ↔ ∃ y, y ∈ M ∧ y.kind = allK k) (h2 : ∀ y, y ∈ nc L ↔ y ∈ nc M) (h3 : addAll [] (nc L) = addAll [] (nc M)) : gather k L = gather k M := by
  have hd : dec k L ↔ dec k M := by
    unfold dec
    rw [h1]
    constructor
    · rintro (h | ⟨y, hy, ho⟩)
      · exact .inl h
      · exact .inr ⟨y, (h2 y).1 hy, (h2 _).1 ho⟩
    · rintro (h | ⟨y, hy, ho⟩)
      · exact .inl h
      · exact .inr ⟨y, (h2 y).2 hy, (h2 _).2 ho⟩
  by_cases h : dec k L
  · rw [gather_dec k L h, gather_dec k M (hd.1 h)]
  · rw [gather_not k L h, gather_not k M (fun e => h (hd.2 e)), h3]
theorem none_ne_all (k : Nat) : noneK k ≠ allK k := by unfold noneK allK; split <;> omega
/-- what is gathered on its own, and then taken in, is as if it had been gathered at once -/
theorem gather_in (k : Nat) (hk : 6 ≤ k) (A S B : List Ex) (hS : ∀ y, y ∈ S → y.kind ≠ k) : gather k (A ++ pieces k (gather k S) ++ B) = gather k (A ++ S ++ B) := by
  by_cases hd : dec k S
  · rw [gather_dec k S hd]
    have hp : pieces k (⟨allK k, [], []⟩ : Ex) = [⟨allK k, [], []⟩] := by
      unfold pieces
      rw [if_neg]
      show allK k ≠ k
      have := allK_le k
      omega
    rw [hp, gather_dec k (A ++ S ++ B) (dec_mono k A S B hd), gather_dec]
    exact .inl ⟨⟨allK k, [], []⟩, by simp, rfl⟩
  · rw [gather_not k S hd]
    obtain ⟨P, hP⟩ : ∃ P, P = pieces k (wrap k (addAll [] (nc S))) := ⟨_, rfl⟩
    rw [← hP]
    have hSa : ∀ y, y ∈ S → y.kind ≠ allK k := fun y hy e => hd (.inl ⟨y, hy, e⟩)
    have hu : ∀ y, y ∈ addAll [] (nc S) → 2 ≤ y.kind ∧ y.kind ≠ k := fun y hy => by
      rw [mem_addAll] at hy
      rcases hy with hy | hy
      · simp at hy
      · exact ⟨((mem_nc y S).1 hy).2, hS y ((mem_nc y S).1 hy).1⟩
    have hPn : nc P = addAll [] (nc S) ∧ ∀ y, y ∈ P → y.kind ≠ allK k := by
      rw [hP]
      generalize addAll [] (nc S) = U at *
      match U, hu with
      | [], _ =>
        have hp : pieces k (wrap k []) = [⟨noneK k, [], []⟩] := by
          unfold pieces wrap
          rw [if_neg]
          show noneK k ≠ k
          have := noneK_le k
          omega
        rw [hp]
        refine ⟨?_, ?_⟩
        · unfold nc
          rw [List.filter_cons, if_neg]
          · rfl
          · have := noneK_le k
            simp
            omega
        · intro y hy
          simp only [List.mem_singleton] at hy
          subst hy
          exact none_ne_all k
      | [p], hu =>
        have hp : pieces k (wrap k [p]) = [p] := by
          unfold pieces wrap
          rw [if_neg (hu p (by simp)).2]
        rw [hp]
        refine ⟨nc_self _ fun y hy => (hu y hy).1, fun y hy => ?_⟩
        have := (hu y hy).1
        have := allK_le k
        omega
      | a :: b :: r, hu =>
        have hp : pieces k (wrap k (a :: b :: r)) = a :: b :: r := by
          unfold pieces wrap
          rw [if_pos rfl]
        rw [hp]
        refine ⟨nc_self _ fun y hy => (hu y hy).1, fun y hy => ?_⟩
        have := (hu y hy).1
        have := allK_le k
        omega
    refine gather_congr k _ _ ?_ ?_ ?_
    · constructor
      · rintro ⟨y, hy, e⟩
        simp only [List.mem_append] at hy
        rcases hy with (hy | hy) | hy
        · exact ⟨y, by simp [hy], e⟩
        · exact absurd e (hPn.2 y hy)
        · exact ⟨y, by simp [hy], e⟩
      · rintro ⟨y, hy, e⟩
        simp only [List.mem_append] at hy
        rcases hy with (hy | hy) | hy
        · exact ⟨y, by simp [hy], e⟩
        · exact absurd e (hSa y hy)
        · exact ⟨y, by simp [hy], e⟩
    · intro y
      rw [nc_append, nc_append, nc_append, nc_append, hPn.1]
      simp only [List.mem_append, mem_addAll]
      simp
    · rw [nc_append, nc_append, nc_append, nc_append, hPn.1, addAll_append, addAll_append, addAll_addAll, addAll_append, addAll_append]
      congr 1
end Ex
namespace Ex
theorem Td.shape {x : Ex} (h : Td x) : Shape x.kind x.name x.of.length := by
  obtain ⟨k, nm, l⟩ := x
  rw [Td.def] at h
  exact h.1
theorem Td.parts {x : Ex} (h : Td x) : ∀ y, y ∈ x.of → Td y ∧ 2 ≤ y.kind ∧ y.kind ≠ x.kind := by
  obtain ⟨k, nm, l⟩ := x
  rw [Td.def] at h
  exact fun y hy => ⟨h.2.2.2 y hy, h.2.1 y hy⟩
theorem Td.not {x : Ex} (h : Td x) (h5 : x.kind = 5) : ∃ y, x = ⟨5, [], [y]⟩ ∧ Td y ∧ 2 ≤ y.kind ∧ y.kind ≠ 5 := by
  have hs := h.shape
  have hp := h.parts
  obtain ⟨k, nm, l⟩ := x
  simp only at h5 hs hp
  subst h5
  rcases hs with hs | hs | hs | hs
  · omega
  · omega
  · obtain ⟨_, rfl, hl⟩ := hs
    match l, hl with
    | [y], _ => exact ⟨y, rfl, hp y (by simp)⟩
  · omega
theorem td_other {x : Ex} (h : Td x) (h2 : 2 ≤ x.kind) : Td (other x) ∧ 2 ≤ (other x).kind := by
  by_cases h5 : x.kind = 5
  · obtain ⟨y, rfl, hy, hk, _⟩ := h.not h5
    exact ⟨hy, hk⟩
  · unfold other
    rw [if_neg h5]
    refine ⟨?_, by show 2 ≤ 5; omega⟩
    rw [Td.def]
    refine ⟨.inr (.inr (.inl ⟨rfl, rfl, rfl⟩)), ?_, by omega, ?_⟩
    · intro y hy; simp only [List.mem_singleton] at hy; subst hy; exact ⟨h2, h5⟩
    · intro y hy; simp only [List.mem_singleton] at hy; subst hy; exact h
theorem td_notT {t : Ex} (h : Td t) : Td (notT t) := by
  unfold notT
  by_cases h0 : t.kind = 0
  · rw [if_pos h0]; exact Td.const 1 (by omega)
  · rw [if_neg h0]
    by_cases h1 : t.kind = 1
    · rw [if_pos h1]; exact Td.const 0 (by omega)
    · rw [if_neg h1]; exact (td_other h (by omega)).1
theorem td_pieces {t : Ex} (k : Nat) (h : Td t) : ∀ y, y ∈ pieces k t → Td y ∧ y.kind ≠ k := by
  unfold pieces
  by_cases hk : t.kind = k
  · rw [if_pos hk]
    intro y hy
    have := h.parts y hy
    exact ⟨this.1, by rw [← hk]; exact this.2.2⟩
  · rw [if_neg hk]
    intro y hy
    simp only [List.mem_singleton] at hy
    subst hy
    exact ⟨h, hk⟩
theorem td_gather (k : Nat) (h6 : 6 ≤ k) (h7 : k ≤ 7) (L : List Ex) (h : ∀ y, y ∈ L → Td y ∧ y.kind ≠ k) : Td (gather k L) := by
  by_cases hd : dec k L
  · rw [gather_dec k L hd]; exact Td.const _ (allK_le k)
  · rw [gather_not k L hd]
    have hm : ∀ y, y ∈ addAll [] (nc L) → Td y ∧ y.kind ≠ k ∧ 2 ≤ y.kind ∧ y ∈ nc L := fun y hy => by
      rw [mem_addAll] at hy
      rcases hy with hy | hy
      · simp at hy
      · have h1 := (mem_nc y L).1 hy
        exact ⟨(h y h1.1).1, (h y h1.1).2, h1.2, hy⟩
    have hn : (addAll [] (nc L)).Nodup := addAll_nodup _ _ List.nodup_nil
    generalize addAll [] (nc L) = U at *
    match U, hm, hn with
    | [], _, _ => exact Td.const _ (noneK_le k)
    | [p], hm, _ => exact (hm p (by simp)).1
    | a :: b :: r, hm, hn =>
      show Td ⟨k, [], a :: b :: r⟩
      rw [Td.def]
      refine ⟨.inr (.inr (.inr ⟨h6, h7, rfl, by simp⟩)), fun y hy => ⟨(hm y hy).2.2.1, (hm y hy).2.1⟩, fun _ => ⟨hn, fun y hy ho => ?_⟩, fun y hy => (hm y hy).1⟩
      exact hd (.inr ⟨y, (hm y hy).2.2.2, (hm _ ho).2.2.2⟩)
theorem td_flat (k : Nat) (l : List Ex) (h : ∀ y, y ∈ l → Td y.tidy) : ∀ y, y ∈ (l.map fun x => pieces k x.tidy).flatten → Td y ∧ y.kind ≠ k := by
  intro y hy
  rw [List.mem_flatten] at hy
  obtain ⟨a, ha, hy⟩ := hy
  obtain ⟨z, hz, rfl⟩ := List.mem_map.1 ha
  exact td_pieces k (h z hz) y hy
/-- what is made tidy is tidy -/
theorem td_tidy (x : Ex) : Wf x → Td x.tidy := by
  induction x using Ex.ind with
  | h k nm l ih =>
    intro h
    rw [Wf.def] at h
    obtain ⟨hs, hl⟩ := h
    rcases hs with ⟨h1, h2, h3⟩ | ⟨h1, h2, h3, h4⟩ | ⟨rfl, rfl, h3⟩ | ⟨h1, h2, rfl, h4⟩
    · rw [tidy_leaf k (by omega)]
      have := List.length_eq_zero_iff.1 h3
      subst this
      rw [h2]
      exact Td.const k h1
    · rw [tidy_leaf k h2]
      have := List.length_eq_zero_iff.1 h4
      subst this
      rw [Td.def]
      exact ⟨.inr (.inl ⟨h1, h2, h3, rfl⟩), by simp, by simp, by simp⟩
    · match l, h3, ih, hl with
      | [y], _, ih, hl =>
        rw [tidy5]
        exact td_notT (ih y (by simp) (hl y (by simp)))
    · have hf := fun k => td_flat k l fun y hy => ih y hy (hl y hy)
      by_cases h6 : k = 6
      · subst h6; rw [tidy6]; exact td_gather 6 (by omega) (by omega) _ (hf 6)
      · have h7 : k = 7 := by omega
        subst h7; rw [tidy7]; exact td_gather 7 (by omega) (by omega) _ (hf 7)
/-- what is tidy stays as it is -/
theorem gather_self (k : Nat) (h6 : 6 ≤ k) (l : List Ex) (h : Td ⟨k, [], l⟩) (h2 : 2 ≤ l.length) : gather k l = ⟨k, [], l⟩ := by
  rw [Td.def] at h
  obtain ⟨_, hk, hn, _⟩ := h
  have hnc : nc l = l := nc_self l fun y hy => (hk y hy).1
  have hd : ¬ dec k l := by
    rintro (⟨y, hy, e⟩ | ⟨y, hy, ho⟩)
    · have := (hk y hy).1
      have := allK_le k
      omega
    · rw [hnc] at hy ho
      exact (hn h6).2 y hy ho
  rw [gather_not k l hd, hnc, addAll_self l [] (by simpa using (hn h6).1)]
  exact wrap_many k _ (by simpa using h2)
theorem flat_one (l : List Ex) : (l.map fun x => [x]).flatten = l := by
  induction l with
  | nil => rfl
  | cons a r ih => rw [List.map_cons, List.flatten_cons, ih]; rfl
theorem tidy_td (x : Ex) : Td x → x.tidy = x := by
  induction x using Ex.ind with
  | h k nm l ih =>
    intro h
    have hp := h.parts
    have hs := h.shape
    simp only at hp hs
    have flat : (l.map fun x => pieces k x.tidy).flatten = l := by
      have e : (l.map fun x => pieces k x.tidy) = l.map fun x => [x] := by
        apply List.map_congr_left
        intro y hy
        rw [ih y hy (hp y hy).1]
        unfold pieces
        rw [if_neg (hp y hy).2.2]
      rw [e]
      exact flat_one l
    rcases hs with ⟨h1, h2, h3⟩ | ⟨h1, h2, h3, h4⟩ | ⟨rfl, rfl, h3⟩ | ⟨h1, h2, rfl, h4⟩
    · exact tidy_leaf k (by omega) nm l
    · exact tidy_leaf k h2 nm l
    · match l, h3, ih, hp with
      | [y], _, ih, hp =>
        have h2 := (hp y (by simp)).2
        rw [tidy5, ih y (by simp) (hp y (by simp)).1]
        unfold notT other
        rw [if_neg (by omega), if_neg (by omega), if_neg h2.2]
    · by_cases h6 : k = 6
      · subst h6
        rw [tidy6, flat]
        exact gather_self 6 (by omega) l h h4
      · have h7 : k = 7 := by omega
        subst h7
        rw [tidy7, flat]
        exact gather_self 7 (by omega) l h h4
/-! it says the same -/
theorem eval_not (is was : List UInt8 → Bool) (n : List UInt8) (y : Ex) : eval is was ⟨5, n, [y]⟩ = !(y.eval is was) := by simp [eval]
theorem eval_and (is was : List UInt8 → Bool) (n : List UInt8) (l : List Ex) : eval is was ⟨6, n, l⟩ = l.all fun x => x.eval is was := by simp [eval, Function.comp_def]
theorem eval_or (is was : List UInt8 → Bool) (n : List UInt8) (l : List Ex) : eval is was ⟨7, n, l⟩ = l.any fun x => x.eval is was := by simp [eval, Function.comp_def]
theorem eval_other (is was : List UInt8 → Bool) {x : Ex} (h : Td x) : (other x).eval is was = !(x.eval is was) := by
  by_cases h5 : x.kind = 5
  · obtain ⟨y, rfl, _⟩ := h.not h5
    rw [eval_not]
    simp [other]
  · unfold other
    rw [if_neg h5, eval_not]
theorem eval_0 (is was : List UInt8 → Bool) (x : Ex) (h : x.kind = 0) : x.eval is was = false := by
  obtain ⟨k, n, l⟩ := x
  simp only at h
  subst h
  simp [eval]
theorem eval_1 (is was : List UInt8 → Bool) (x : Ex) (h : x.kind = 1) : x.eval is was = true := by
  obtain ⟨k, n, l⟩ := x
  simp only at h
  subst h
  simp [eval]
theorem eval_notT (is was : List UInt8 → Bool) {t : Ex} (h : Td t) : (notT t).eval is was = !(t.eval is was) := by
  unfold notT
  by_cases h0 : t.kind = 0
  · rw [if_pos h0, eval_0 is was t h0, eval_1 _ _ _ rfl]; rfl
  · rw [if_neg h0]
    by_cases h1 : t.kind = 1
    · rw [if_pos h1, eval_1 is was t h1, eval_0 _ _ _ rfl]; rfl
    · rw [if_neg h1]; exact eval_other is was h
theorem eval_gather6 (is was : List UInt8 → Bool) (L : List Ex) (h : ∀ y, y ∈ L → Td y) : (gather 6 L).eval is was = L.all fun x => x.eval is was := by
  by_cases hd : dec 6 L
  · rw [gather_dec 6 L hd, eval_0 is was _ rfl]
    symm
    rw [List.all_eq_false]
    rcases hd with ⟨y, hy, e⟩ | ⟨y, hy, ho⟩
    · exact ⟨y, hy, by rw [eval_0 is was y e]; simp⟩
    · have h1 := ((mem_nc y L).1 hy).1
      have h2 := ((mem_nc _ L).1 ho).1
      have h3 := eval_other is was (h y h1)
      cases e : y.eval is was with
      | false => exact ⟨y, h1, by rw [e]; simp⟩
      | true => exact ⟨_, h2, by rw [h3, e]; simp⟩
  · rw [gather_not 6 L hd]
    have hw : (wrap 6 (addAll [] (nc L))).eval is was = (addAll [] (nc L)).all fun x => x.eval is was := by
      generalize addAll [] (nc L) = U
      match U with
      | [] => exact eval_1 is was _ rfl
      | [p] => simp [wrap]
      | a :: b :: r => exact eval_and is was [] _
    rw [hw, Bool.eq_iff_iff, List.all_eq_true, List.all_eq_true]
    constructor
    · intro hu y hy
      by_cases hk : 2 ≤ y.kind
      · exact hu y ((mem_addAll _ _ _).2 (.inr ((mem_nc y L).2 ⟨hy, hk⟩)))
      · by_cases h0 : y.kind = 0
        · exact absurd (.inl ⟨y, hy, h0⟩) hd
        · exact eval_1 is was y (by omega)
    · intro hu y hy
      rw [mem_addAll] at hy
      rcases hy with hy | hy
      · simp at hy
      · exact hu y ((mem_nc y L).1 hy).1
theorem eval_gather7 (is was : List UInt8 → Bool) (L : List Ex) (h : ∀ y, y ∈ L → Td y) : (gather 7 L).eval is was = L.any fun x => x.eval is was := by
  by_cases hd : dec 7 L
  · rw [gather_dec 7 L hd, eval_1 is was _ rfl]
    symm
    rw [List.any_eq_true]
    rcases hd with ⟨y, hy, e⟩ | ⟨y, hy, ho⟩
    · exact ⟨y, hy, eval_1 is was y e⟩
    · have h1 := ((mem_nc y L).1 hy).1
      have h2 := ((mem_nc _ L).1 ho).1
      have h3 := eval_other is was (h y h1)
      cases e : y.eval is was with
      | true => exact ⟨y, h1, e⟩
      | false => exact ⟨_, h2, by rw [h3, e]; rfl⟩
  · rw [gather_not 7 L hd]
    have hw : (wrap 7 (addAll [] (nc L))).eval is was = (addAll [] (nc L)).any fun x => x.eval is was := by
      generalize addAll [] (nc L) = U
      match U with
      | [] => exact eval_0 is was _ rfl
      | [p] => simp [wrap]
      | a :: b :: r => exact eval_or is was [] _
    rw [hw, Bool.eq_iff_iff, List.any_eq_true, List.any_eq_true]
    constructor
    · rintro ⟨y, hy, e⟩
      rw [mem_addAll] at hy
      rcases hy with hy | hy
      · simp at hy
      · exact ⟨y, ((mem_nc y L).1 hy).1, e⟩
    · rintro ⟨y, hy, e⟩
      by_cases hk : 2 ≤ y.kind
      · exact ⟨y, (mem_addAll _ _ _).2 (.inr ((mem_nc y L).2 ⟨hy, hk⟩)), e⟩
      · by_cases h1 : y.kind = 1
        · exact absurd (.inl ⟨y, hy, h1⟩) hd
        · rw [eval_0 is was y (by omega)] at e; simp at e
theorem eval_pieces6 (is was : List UInt8 → Bool) (t : Ex) : ((pieces 6 t).all fun x => x.eval is was) = t.eval is was := by
  unfold pieces
  by_cases h : t.kind = 6
  · rw [if_pos h]
    obtain ⟨k, n, l⟩ := t
    simp only at h
    subst h
    exact (eval_and is was n l).symm
  · rw [if_neg h]; simp
theorem eval_pieces7 (is was : List UInt8 → Bool) (t : Ex) : ((pieces 7 t).any fun x => x.eval is was) = t.eval is was := by
  unfold pieces
  by_cases h : t.kind = 7
  · rw [if_pos h]
    obtain ⟨k, n, l⟩ := t
    simp only at h
    subst h
    exact (eval_or is was n l).symm
  · rw [if_neg h]; simp
theorem eval_tidy (is was : List UInt8 → Bool) (x : Ex) : Wf x → x.tidy.eval is was = x.eval is was := by
  induction x using Ex.ind with
  | h k nm l ih =>
    intro h
    rw [Wf.def] at h
    obtain ⟨hs, hl⟩ := h
    have hf := fun k => td_flat k l fun y hy => td_tidy y (hl y hy)
    rcases hs with ⟨h1, h2, h3⟩ | ⟨h1, h2, h3, h4⟩ | ⟨rfl, rfl, h3⟩ | ⟨h1, h2, rfl, h4⟩
    · rw [tidy_leaf k (by omega)]
    · rw [tidy_leaf k h2]
    · match l, h3, ih, hl with
      | [y], _, ih, hl =>
        rw [tidy5, eval_notT is was (td_tidy y (hl y (by simp))), ih y (by simp) (hl y (by simp)), eval_not]
    · by_cases h6 : k = 6
      · subst h6
        rw [tidy6, eval_gather6 is was _ fun y hy => (hf 6 y hy).1, eval_and, Bool.eq_iff_iff, List.all_eq_true, List.all_eq_true]
        constructor
        · intro hu y hy
          rw [← ih y hy (hl y hy), ← eval_pieces6, List.all_eq_true]
          exact fun z hz => hu z (List.mem_flatten.2 ⟨_, List.mem_map_of_mem hy, hz⟩)
        · intro hu z hz
          obtain ⟨a, ha, hz⟩ := List.mem_flatten.1 hz
          obtain ⟨y, hy, rfl⟩ := List.mem_map.1 ha
          have := hu y hy
          rw [← ih y hy (hl y hy), ← eval_pieces6, List.all_eq_true] at this
          exact this z hz
      · have h7 : k = 7 := by omega
        subst h7
        rw [tidy7, eval_gather7 is was _ fun y hy => (hf 7 y hy).1, eval_or, Bool.eq_iff_iff, List.any_eq_true, List.any_eq_true]
        constructor
        · rintro ⟨z, hz, e⟩
          obtain ⟨a, ha, hz⟩ := List.mem_flatten.1 hz
          obtain ⟨y, hy, rfl⟩ := List.mem_map.1 ha
          refine ⟨y, hy, ?_⟩
          rw [← ih y hy (hl y hy), ← eval_pieces7, List.any_eq_true]
          exact ⟨z, hz, e⟩
        · rintro ⟨y, hy, e⟩
          rw [← ih y hy (hl y hy), ← eval_pieces7, List.any_eq_true] at e
          obtain ⟨z, hz, e⟩ := e
          exact ⟨z, List.mem_flatten.2 ⟨_, List.mem_map_of_mem hy, hz⟩, e⟩
end Ex
end Go.Proofs.YtjfgfcajmkbmeaaGreatDoor
