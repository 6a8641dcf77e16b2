/-
  Plain mathematics of chapter 10: formulas as trees, which may be (10.1), what holds at each time of a word that goes round (10.2), texts, and Not pushed inwards (10.3). Nothing of the program is named here.
-/
import Derived.Test.YtmdblokmplbpmaaDoorNmMath
namespace Go.Proofs.YtmdblokmplbpmaaDoor
namespace Ls
/-- A formula: kinds 1 (a name), 2 (true), 3 (not), 4 (and), 5 (or), 6 (next), 7 (until), 8 (release), 9 (ever), 10 (always); nil: there is none. -/
structure Fm where
  nil : Bool
  kind : Int
  name : List UInt8
  of : List Fm
theorem Fm.ind {P : Fm → Prop} (h : ∀ z k n l, (∀ x, x ∈ l → P x) → P ⟨z, k, n, l⟩) : ∀ e, P e
  | ⟨z, k, n, l⟩ => h z k n l (fun x _ => Fm.ind h x)
/-- how many parts stand right within -/
def partsOf (k : Int) : Nat := if k = 4 ∨ k = 5 ∨ k = 7 ∨ k = 8 then 2 else if k = 3 ∨ k = 6 ∨ k = 9 ∨ k = 10 then 1 else 0
/-- what is wrong with a part itself that so many stand around: 0: nothing -/
def wrongN (z : Bool) (k : Int) (nm : List UInt8) (m a : Nat) : Nat :=
  if z = true then 7 else if 19 < a then 4 else if k < 1 ∨ 10 < k ∨ m ≠ partsOf k then 1
  else if k ≠ 1 ∧ nm ≠ [] then 1 else if k = 1 ∧ Nm.name nm = false then 5 else 0
/-- parts one behind the other: how many, or what is wrong first -/
def tally : List (Nat × Nat) → Nat → Nat × Nat
  | [], n => (n, 0)
  | c :: r, n => if c.2 ≠ 0 then (0, c.2) else tally r (n + c.1)
def count : Fm → Nat → Nat × Nat
  | ⟨z, k, nm, l⟩ => fun a => if wrongN z k nm l.length a ≠ 0 then (0, wrongN z k nm l.length a) else tally ((l.map fun x => count x).map fun c => c (a + 1)) 1
def size : Fm → Nat
  | ⟨_, _, _, l⟩ => 1 + (l.map fun x => size x).sum
/-- no part is wrong -/
def ok : Fm → Nat → Bool
  | ⟨z, k, nm, l⟩ => fun a => decide (wrongN z k nm l.length a = 0) && ((l.map fun x => ok x).all fun c => c (a + 1))
def right (x : Fm) : Option Nat := if (count x 0).2 ≠ 0 then some (count x 0).2 else if 100 < (count x 0).1 then some 4 else none
theorem count_eq (z : Bool) (k : Int) (nm : List UInt8) (l : List Fm) (a : Nat) : count ⟨z, k, nm, l⟩ a = if wrongN z k nm l.length a ≠ 0 then (0, wrongN z k nm l.length a) else tally (l.map fun x => count x (a + 1)) 1 := by
  rw [count]; simp [List.map_map, Function.comp_def]
theorem ok_eq (z : Bool) (k : Int) (nm : List UInt8) (l : List Fm) (a : Nat) : ok ⟨z, k, nm, l⟩ a = (decide (wrongN z k nm l.length a = 0) && l.all fun x => ok x (a + 1)) := by
  rw [ok]; simp [List.all_map, Function.comp_def]
theorem size_eq (z : Bool) (k : Int) (nm : List UInt8) (l : List Fm) : size ⟨z, k, nm, l⟩ = 1 + (l.map size).sum := by rw [size]
theorem tally_ok (f : Fm → Nat × Nat) : ∀ (l : List Fm) (n : Nat), (∀ x, x ∈ l → f x = (size x, 0)) → tally (l.map f) n = (n + (l.map size).sum, 0)
  | [], n, _ => rfl
  | x :: r, n, h => by
    rw [List.map_cons, List.map_cons, tally, h x (by simp), tally_ok f r _ (fun y hy => h y (by simp [hy]))]
    simp [Nat.add_assoc]
theorem tally_bad : ∀ (l : List (Nat × Nat)) (n : Nat), (∃ c, c ∈ l ∧ c.2 ≠ 0) → (tally l n).2 ≠ 0
  | [], _, ⟨_, h, _⟩ => by simp at h
  | c :: r, n, h => by
    rw [tally]
    by_cases hc : c.2 ≠ 0
    · rw [if_pos hc]; exact hc
    · rw [if_neg hc]
      obtain ⟨d, hd, hn⟩ := h
      rcases List.mem_cons.1 hd with rfl | hd
      · exact absurd hn hc
      · exact tally_bad r _ ⟨d, hd, hn⟩
theorem count_ok : ∀ (x : Fm) (a : Nat), ok x a = true → count x a = (size x, 0) := by
  intro x
  induction x using Fm.ind with
  | h z k nm l ih =>
    intro a h
    rw [ok_eq, Bool.and_eq_true, List.all_eq_true] at h
    have h0 : wrongN z k nm l.length a = 0 := by simpa using h.1
    rw [count_eq, if_neg (by rw [h0]; decide), tally_ok _ l 1 (fun y hy => ih y hy (a + 1) (h.2 y hy)), size_eq]
theorem count_bad : ∀ (x : Fm) (a : Nat), ok x a = false → (count x a).2 ≠ 0 := by
  intro x
  induction x using Fm.ind with
  | h z k nm l ih =>
    intro a h
    rw [count_eq]
    by_cases h0 : wrongN z k nm l.length a ≠ 0
    · rw [if_pos h0]; exact h0
    · rw [if_neg h0]
      have h1 : wrongN z k nm l.length a = 0 := by simpa using h0
      rw [ok_eq, h1] at h
      have h2 : (l.all fun x => ok x (a + 1)) = false := by simpa using h
      rw [List.all_eq_false] at h2
      obtain ⟨y, hy, hn⟩ := h2
      exact tally_bad _ _ ⟨count y (a + 1), List.mem_map_of_mem hy, ih y hy (a + 1) (by simpa using hn)⟩
/-- a formula that may be -/
def Fine (x : Fm) : Prop := ok x 0 = true ∧ size x ≤ 100
theorem right_none (x : Fm) : right x = none ↔ Fine x := by
  unfold right Fine
  cases h : ok x 0 with
  | true =>
    rw [count_ok x 0 h]
    simp
  | false =>
    have := count_bad x 0 h
    rw [if_pos this]; simp
theorem wrongN_zero {z : Bool} {k : Int} {nm : List UInt8} {m a : Nat} (h : wrongN z k nm m a = 0) : z = false ∧ a ≤ 19 ∧ 1 ≤ k ∧ k ≤ 10 ∧ m = partsOf k ∧ (k ≠ 1 → nm = []) ∧ (k = 1 → Nm.name nm = true) := by
  unfold wrongN at h
  by_cases h1 : z = true
  · rw [if_pos h1] at h; cases h
  rw [if_neg h1] at h
  by_cases h2 : 19 < a
  · rw [if_pos h2] at h; cases h
  rw [if_neg h2] at h
  by_cases h3 : k < 1 ∨ 10 < k ∨ m ≠ partsOf k
  · rw [if_pos h3] at h; cases h
  rw [if_neg h3] at h
  by_cases h4 : k ≠ 1 ∧ nm ≠ []
  · rw [if_pos h4] at h; cases h
  rw [if_neg h4] at h
  by_cases h5 : k = 1 ∧ Nm.name nm = false
  · rw [if_pos h5] at h; cases h
  refine ⟨by simpa using h1, by omega, by omega, by omega, ?_, ?_, ?_⟩
  · by_cases e : m = partsOf k
    · exact e
    · exact absurd (.inr (.inr e)) h3
  · intro hk
    by_cases e : nm = []
    · exact e
    · exact absurd ⟨hk, e⟩ h4
  · intro hk
    cases e : Nm.name nm with
    | true => rfl
    | false => exact absurd ⟨hk, e⟩ h5
theorem wrongN_mk {k : Int} {nm : List UInt8} {m a : Nat} (ha : a ≤ 19) (h1 : 1 ≤ k) (h2 : k ≤ 10) (h3 : m = partsOf k) (h4 : k ≠ 1 → nm = []) (h5 : k = 1 → Nm.name nm = true) : wrongN false k nm m a = 0 := by
  unfold wrongN
  rw [if_neg (by decide), if_neg (by omega), if_neg (by rintro (h | h | h); · omega
                                                        · omega
                                                        · exact h h3), if_neg (fun h => h.2 (h4 h.1)), if_neg (fun h => by rw [h5 h.1] at h; cases h.2)]
theorem partsOf_le (k : Int) : partsOf k ≤ 2 := by unfold partsOf; split <;> (try split) <;> omega
theorem ok_fewer : ∀ (x : Fm) (a b : Nat), b ≤ a → ok x a = true → ok x b = true := by
  intro x
  induction x using Fm.ind with
  | h z k nm l ih =>
    intro a b hab h
    rw [ok_eq, Bool.and_eq_true, List.all_eq_true] at h ⊢
    obtain ⟨hz, h1, h2, h3, h4, h5, h6⟩ := wrongN_zero (of_decide_eq_true h.1)
    subst hz
    exact ⟨decide_eq_true (wrongN_mk (by omega) h2 h3 h4 h5 h6), fun y hy => ih y hy (a + 1) (b + 1) (by omega) (h.2 y hy)⟩
theorem size_le : ∀ (x : Fm) (a : Nat), ok x a = true → size x + 1 ≤ 2 ^ (20 - a) := by
  intro x
  induction x using Fm.ind with
  | h z k nm l ih =>
    intro a h
    rw [ok_eq, Bool.and_eq_true, List.all_eq_true] at h
    obtain ⟨_, h1, h2, h3, h4, _, _⟩ := wrongN_zero (of_decide_eq_true h.1)
    have hl : l.length ≤ 2 := by rw [h4]; exact partsOf_le k
    obtain ⟨d, hd⟩ : ∃ d, 20 - a = d + 1 := ⟨19 - a, by omega⟩
    have e : 20 - (a + 1) = d := by omega
    rw [hd, Nat.pow_succ, size_eq]
    have hp : 1 ≤ 2 ^ d := Nat.one_le_two_pow
    match l, hl with
    | [], _ => simp; omega
    | [x1], _ =>
      have := ih x1 (by simp) (a + 1) (h.2 x1 (by simp))
      rw [e] at this
      simp; omega
    | [x1, x2], _ =>
      have i1 := ih x1 (by simp) (a + 1) (h.2 x1 (by simp))
      have i2 := ih x2 (by simp) (a + 1) (h.2 x2 (by simp))
      rw [e] at i1 i2
      simp; omega
theorem count_le (x : Fm) (a : Nat) : (count x a).1 ≤ 2 ^ 20 := by
  cases h : ok x a with
  | true =>
    rw [count_ok x a h]
    have h1 := size_le x a h
    have h2 : 2 ^ (20 - a) ≤ 2 ^ 20 := Nat.pow_le_pow_right (by omega) (by omega)
    show size x ≤ _
    omega
  | false =>
    obtain ⟨z, k, nm, l⟩ := x
    rw [count_eq]
    by_cases h0 : wrongN z k nm l.length a ≠ 0
    · rw [if_pos h0]; exact Nat.zero_le _
    · rw [if_neg h0]
      have h1 : wrongN z k nm l.length a = 0 := by simpa using h0
      rw [ok_eq, h1] at h
      have h2 : (l.all fun x => ok x (a + 1)) = false := by simpa using h
      rw [List.all_eq_false] at h2
      obtain ⟨y, hy, hn⟩ := h2
      have : ∀ (m : List (Nat × Nat)) (n : Nat), (∃ c, c ∈ m ∧ c.2 ≠ 0) → (tally m n).1 = 0 := by
        intro m
        induction m with
        | nil => intro n h; obtain ⟨_, h, _⟩ := h; simp at h
        | cons c r ih =>
          intro n h
          rw [tally]
          by_cases hc : c.2 ≠ 0
          · rw [if_pos hc]
          · rw [if_neg hc]
            obtain ⟨d, hd, hn⟩ := h
            rcases List.mem_cons.1 hd with rfl | hd
            · exact absurd hn hc
            · exact ih _ ⟨d, hd, hn⟩
      rw [this _ _ ⟨count y (a + 1), List.mem_map.2 ⟨y, hy, rfl⟩, count_bad y (a + 1) (by simpa using hn)⟩]
      exact Nat.zero_le _
/- times -/
def next (n r t : Nat) : Nat := if t + 1 < n then t + 1 else r
/-- from the last time on backwards; z: what is said of behind the last one -/
def bk (n : Nat) (p q : Nat → Bool) (z : Bool) : Nat → Bool
  | 0 => z
  | d + 1 => q (n - (d + 1)) || (p (n - (d + 1)) && bk n p q z d)
def unt (n r : Nat) (p q : Nat → Bool) (t : Nat) : Bool := bk n p q (bk n p q false (n - r)) (n - t)
theorem bk_more (n : Nat) (p q : Nat → Bool) (z : Bool) : ∀ d, bk n p q false d = true → bk n p q z d = true
  | 0, h => by cases h
  | d + 1, h => by
    rw [bk, Bool.or_eq_true, Bool.and_eq_true] at h ⊢
    exact h.imp id fun h => ⟨h.1, bk_more n p q z d h.2⟩
theorem bk_or (n : Nat) (p q : Nat → Bool) (z : Bool) : ∀ d, bk n p q z d = true → bk n p q false d = true ∨ z = true
  | 0, h => .inr h
  | d + 1, h => by
    rw [bk, Bool.or_eq_true, Bool.and_eq_true] at h
    rcases h with h | ⟨h1, h2⟩
    · exact .inl (by rw [bk, h]; rfl)
    · rcases bk_or n p q z d h2 with h | h
      · exact .inl (by rw [bk, h1, h]; simp)
      · exact .inr h
theorem unt_round {n r : Nat} (p q : Nat → Bool) : unt n r p q r = bk n p q false (n - r) := by
  unfold unt
  cases h : bk n p q false (n - r) with
  | true => exact bk_more _ _ _ _ _ h
  | false => exact h
/-- what holds at some time is told by now and the next time -/
theorem unt_step {n r : Nat} (p q : Nat → Bool) (t : Nat) (ht : t < n) : unt n r p q t = (q t || (p t && unt n r p q (next n r t))) := by
  obtain ⟨d, hd⟩ : ∃ d, n - t = d + 1 := ⟨n - t - 1, by omega⟩
  have e1 : n - (d + 1) = t := by omega
  by_cases h : t + 1 < n
  · rw [next, if_pos h]
    unfold unt
    have e2 : n - (t + 1) = d := by omega
    rw [e2, hd, bk, e1]
  · rw [next, if_neg h, unt_round]
    have : d = 0 := by omega
    subst this
    unfold unt
    rw [hd, bk, bk, e1]
def steps (n r : Nat) : Nat → Nat → Nat
  | 0, t => t
  | k + 1, t => steps n r k (next n r t)
theorem next_lt {n r : Nat} (hr : r < n) (t : Nat) : next n r t < n := by unfold next; split <;> omega
/-- at some time that is come to, and the other one until then -/
def At (n r : Nat) (p q : Nat → Bool) (t : Nat) : Prop := ∃ k, q (steps n r k t) = true ∧ ∀ j, j < k → p (steps n r j t) = true
theorem bk_at {n r : Nat} (p q : Nat → Bool) (z : Bool) (hz : z = true → At n r p q r) : ∀ d, d ≤ n → 0 < d → bk n p q z d = true → At n r p q (n - d)
  | 0, _, h, _ => by omega
  | d + 1, hd, _, h => by
    rw [bk, Bool.or_eq_true, Bool.and_eq_true] at h
    rcases h with h | ⟨h1, h2⟩
    · exact ⟨0, h, fun j hj => by omega⟩
    · have key : At n r p q (next n r (n - (d + 1))) := by
        by_cases h0 : d = 0
        · subst h0
          rw [next, if_neg (by omega)]
          exact hz h2
        · have e : next n r (n - (d + 1)) = n - d := by rw [next, if_pos (by omega)]; omega
          rw [e]
          exact bk_at p q z hz d (by omega) (by omega) h2
      obtain ⟨k, hk, hj⟩ := key
      refine ⟨k + 1, hk, fun j hj' => ?_⟩
      cases j with
      | zero => exact h1
      | succ j => exact hj j (by omega)
theorem unt_iff {n r : Nat} (hr : r < n) (p q : Nat → Bool) (t : Nat) (ht : t < n) : unt n r p q t = true ↔ At n r p q t := by
  constructor
  · intro h
    have e : t = n - (n - t) := by omega
    rw [e]
    refine bk_at p q _ (fun hz => ?_) (n - t) (by omega) (by omega) h
    have e2 : r = n - (n - r) := by omega
    have := bk_at (r := r) p q false (fun h => by cases h) (n - r) (by omega) (by omega) hz
    rwa [← e2] at this
  · rintro ⟨k, hk, hj⟩
    induction k generalizing t with
    | zero => rw [unt_step p q t ht]; simp [show q t = true from hk]
    | succ k ih =>
      rw [unt_step p q t ht, ih (next n r t) (next_lt hr t) hk (fun j hj' => hj (j + 1) (by omega)), show p t = true from hj 0 (by omega)]
      simp
/-- what holds at a time, by kinds -/
def semK (L : List (List (List UInt8))) (r : Nat) (k : Int) (nm : List UInt8) (p q : Nat → Bool) (t : Nat) : Bool :=
  if k = 1 then (L.getD t []).contains nm
  else if k = 3 then !p t
  else if k = 4 then p t && q t
  else if k = 5 then p t || q t
  else if k = 6 then p (next L.length r t)
  else if k = 7 then unt L.length r p q t
  else if k = 8 then !(unt L.length r (fun t => !p t) (fun t => !q t) t)
  else if k = 9 then unt L.length r (fun _ => true) p t
  else if k = 10 then !(unt L.length r (fun _ => true) (fun t => !p t) t)
  else true
def sem (L : List (List (List UInt8))) (r : Nat) : Fm → Nat → Bool
  | ⟨_, k, nm, l⟩ => semK L r k nm ((l.map fun x => sem L r x).getD 0 fun _ => true) ((l.map fun x => sem L r x).getD 1 fun _ => true)
theorem sem_eq (L : List (List (List UInt8))) (r : Nat) (z : Bool) (k : Int) (nm : List UInt8) (l : List Fm) : sem L r ⟨z, k, nm, l⟩ = semK L r k nm ((l.map fun x => sem L r x).getD 0 fun _ => true) ((l.map fun x => sem L r x).getD 1 fun _ => true) := by rw [sem]
/-- words that go along with each other -/
structure Bis (L : List (List (List UInt8))) (r : Nat) (L' : List (List (List UInt8))) (r' : Nat) (R : Nat → Nat → Prop) : Prop where
  r1 : r < L.length
  r2 : r' < L'.length
  lt : ∀ i j, R i j → i < L.length ∧ j < L'.length
  eq : ∀ i j, R i j → L.getD i [] = L'.getD j []
  nx : ∀ i j, R i j → R (next L.length r i) (next L'.length r' j)
theorem Bis.steps {L L' : List (List (List UInt8))} {r r' : Nat} {R : Nat → Nat → Prop} (B : Bis L r L' r' R) : ∀ (k i j : Nat), R i j → R (steps L.length r k i) (Ls.steps L'.length r' k j)
  | 0, _, _, h => h
  | k + 1, _, _, h => B.steps k _ _ (B.nx _ _ h)
theorem bool_eq {a b : Bool} (h : a = true ↔ b = true) : a = b := by cases a <;> cases b <;> simp_all
theorem Bis.unt {L L' : List (List (List UInt8))} {r r' : Nat} {R : Nat → Nat → Prop} (B : Bis L r L' r' R) (p q p' q' : Nat → Bool) (hp : ∀ i j, R i j → p i = p' j) (hq : ∀ i j, R i j → q i = q' j) (i j : Nat) (h : R i j) : unt L.length r p q i = Ls.unt L'.length r' p' q' j := by
  obtain ⟨hi, hj⟩ := B.lt i j h
  apply bool_eq
  rw [unt_iff B.r1 p q i hi, unt_iff B.r2 p' q' j hj]
  constructor
  · rintro ⟨k, h1, h2⟩
    exact ⟨k, by rw [← hq _ _ (B.steps k i j h)]; exact h1, fun m hm => by rw [← hp _ _ (B.steps m i j h)]; exact h2 m hm⟩
  · rintro ⟨k, h1, h2⟩
    exact ⟨k, by rw [hq _ _ (B.steps k i j h)]; exact h1, fun m hm => by rw [hp _ _ (B.steps m i j h)]; exact h2 m hm⟩
theorem Bis.semK {L L' : List (List (List UInt8))} {r r' : Nat} {R : Nat → Nat → Prop} (B : Bis L r L' r' R) (k : Int) (nm : List UInt8) (p q p' q' : Nat → Bool) (hp : ∀ i j, R i j → p i = p' j) (hq : ∀ i j, R i j → q i = q' j) (i j : Nat) (h : R i j) : semK L r k nm p q i = Ls.semK L' r' k nm p' q' j := by
  unfold Ls.semK
  rw [B.eq i j h, hp i j h, hq i j h, hp _ _ (B.nx i j h), B.unt p q p' q' hp hq i j h, B.unt (fun t => !p t) (fun t => !q t) (fun t => !p' t) (fun t => !q' t) (fun a b hab => by rw [hp a b hab]) (fun a b hab => by rw [hq a b hab]) i j h, B.unt (fun _ => true) p (fun _ => true) p' (fun _ _ _ => rfl) hp i j h, B.unt (fun _ => true) (fun t => !p t) (fun _ => true) (fun t => !p' t) (fun _ _ _ => rfl) (fun a b hab => by rw [hp a b hab]) i j h]
theorem Bis.sem {L L' : List (List (List UInt8))} {r r' : Nat} {R : Nat → Nat → Prop} (B : Bis L r L' r' R) : ∀ (x : Fm) (i j : Nat), R i j → sem L r x i = Ls.sem L' r' x j := by
  intro x
  induction x using Fm.ind with
  | h z k nm l ih =>
    intro i j h
    rw [sem_eq, sem_eq]
    have each : ∀ m, ∀ i j, R i j → ((l.map fun x => Ls.sem L r x).getD m fun _ => true) i = ((l.map fun x => Ls.sem L' r' x).getD m fun _ => true) j := by
      intro m i j h
      rw [List.getD_eq_getElem?_getD, List.getD_eq_getElem?_getD, List.getElem?_map, List.getElem?_map]
      cases hm : l[m]? with
      | none => rfl
      | some y => exact ih y (List.mem_of_getElem? hm) i j h
    exact B.semK k nm _ _ _ _ (each 0) (each 1) i j h
end Ls
end Go.Proofs.YtmdblokmplbpmaaDoor
