/-
  Slices of strings; is a name one of some? Plain mathematics: values of names as numbers (bit k is the k-th name); the least pair in which one name alone decides.
-/
import Derived.Test.YtblfeahbpklgiaaGreatDoorEvWithinAll
import Derived.Test.YtblfeahbpklgiaaGreatDoorExMath
import Derived.Laws.Bits64b
import Derived.Laws.BitsLemmas
namespace Go.Proofs.YtblfeahbpklgiaaGreatDoor
section
open Go.RowKit
/-- a slice of strings -/
def Strs (w : World) (sv : Value) (ss : List ByteArray) : Prop :=
  (ss = [] ∧ ∃ a cap, sv = .slice a 0 cap) ∨ ∃ g o cap, sv = .slice (some ⟨g, o, none⟩) ss.length cap ∧ ss.length ≤ cap ∧ ss.length ≤ 1000000 ∧ ∀ k s, ss[k]? = some s → w.cell? ⟨g, o + k, none⟩ = some (.string s)
theorem Strs.below {w w' : World} {sv : Value} {ss : List ByteArray} (h : Strs w sv ss) (hb : Below w.heap.size w w') : Strs w' sv ss := by
  rcases h with h | ⟨g, o, cap, h1, h2, h3, h4⟩
  · exact .inl h
  · exact .inr ⟨g, o, cap, h1, h2, h3, fun k s hs => Stay.below (ok := fun _ => True) hb g _ _ trivial (h4 k s hs)⟩
/-- is a name one of these? -/
def amongB (ss : List ByteArray) (nm : List UInt8) : Bool := ss.any fun s => s.data.toList == nm
theorem bytes_list (l : List UInt8) : (⟨l.toArray⟩ : ByteArray).toList = l := by rw [ByteArray.toList_eq]
end
section
namespace Cv
/-- which number a name has among some -/
def ix : List (List UInt8) → List UInt8 → Int
  | [], _ => -1
  | a :: r, nm => if nm == a then 0 else (if ix r nm = -1 then -1 else ix r nm + 1)
theorem ix_ge : ∀ (l : List (List UInt8)) (nm : List UInt8), -1 ≤ ix l nm
  | [], _ => by simp [ix]
  | a :: r, nm => by
    have := ix_ge r nm
    unfold ix
    split
    · omega
    · split <;> omega
theorem ix_none : ∀ (l : List (List UInt8)) (nm : List UInt8), l.any (fun x => nm == x) = false → ix l nm = -1
  | [], _, _ => rfl
  | a :: r, nm, h => by
    simp only [List.any_cons, Bool.or_eq_false_iff] at h
    unfold ix
    rw [h.1, ix_none r nm h.2]
    simp
theorem ix_hit : ∀ (l : List (List UInt8)) (nm : List UInt8) (k : Nat) (hk : k < l.length), (l.take k).any (fun x => nm == x) = false → (nm == l[k]) = true → ix l nm = (k : Int)
  | [], _, k, hk, _, _ => by simp at hk
  | a :: r, nm, 0, _, _, h => by
    unfold ix
    simp only [List.getElem_cons_zero] at h
    rw [h]
    rfl
  | a :: r, nm, k + 1, hk, h, h2 => by
    simp only [List.take_succ_cons, List.any_cons, Bool.or_eq_false_iff] at h
    simp only [List.getElem_cons_succ] at h2
    have ih := ix_hit r nm k (by simpa using hk) h.2 h2
    unfold ix
    rw [h.1, ih]
    simp
    try omega
theorem ix_lt : ∀ (l : List (List UInt8)) (nm : List UInt8), ix l nm < l.length
  | [], _ => by simp [ix]
  | a :: r, nm => by
    have := ix_lt r nm
    unfold ix
    simp only [List.length_cons]
    split
    · omega
    · split <;> omega
theorem ix_at : ∀ (l : List (List UInt8)) (nm : List UInt8), 0 ≤ ix l nm → l[(ix l nm).toNat]? = some nm
  | [], _, h => by simp [ix] at h
  | a :: r, nm, h => by
    unfold ix at h ⊢
    by_cases e : (nm == a) = true
    · rw [if_pos e]
      have : nm = a := by simpa using e
      simp [this]
    · rw [if_neg e] at h ⊢
      by_cases e2 : ix r nm = -1
      · rw [if_pos e2] at h; omega
      · rw [if_neg e2] at h ⊢
        have h3 := ix_ge r nm
        have ih := ix_at r nm (by omega)
        rw [show (ix r nm + 1).toNat = (ix r nm).toNat + 1 by omega, List.getElem?_cons_succ]
        exact ih
theorem ix_mem (l : List (List UInt8)) (nm : List UInt8) (h : nm ∈ l) : 0 ≤ ix l nm := by
  induction l with
  | nil => simp at h
  | cons a r ih =>
    unfold ix
    by_cases e : (nm == a) = true
    · rw [if_pos e]; omega
    · rw [if_neg e]
      have : nm ∈ r := by
        rcases List.mem_cons.1 h with rfl | h
        · simp at e
        · exact h
      have := ih this
      rw [if_neg (by omega)]
      omega
/-- a name is told by its bit -/
def tv (ns : List (List UInt8)) (v : Nat) (nm : List UInt8) : Bool := decide (0 ≤ ix ns nm) && v.testBit (ix ns nm).toNat
/-- what an expression says of values -/
def sayV (x : Ex) (ns : List (List UInt8)) (v : Nat) : Bool := x.eval (tv ns v) (tv ns v)
theorem tv_congr (ns : List (List UInt8)) (u v : Nat) (h : ∀ k, k < ns.length → u.testBit k = v.testBit k) : tv ns u = tv ns v := by
  funext nm
  unfold tv
  by_cases e : 0 ≤ ix ns nm
  · rw [h _ (by have := ix_lt ns nm; omega)]
  · simp [e]
theorem sayV_congr (x : Ex) (ns : List (List UInt8)) (u v : Nat) (h : ∀ k, k < ns.length → u.testBit k = v.testBit k) : sayV x ns u = sayV x ns v := by
  unfold sayV
  rw [tv_congr ns u v h]
/-- those names whose bits are set -/
def sel (ns : List (List UInt8)) (v : Nat) (k : Nat) : List (List UInt8) := (List.range k).filterMap fun i => if v.testBit i then ns[i]? else none
theorem sel_succ (ns : List (List UInt8)) (v k : Nat) (hk : k < ns.length) : sel ns v (k + 1) = sel ns v k ++ (if v.testBit k then [ns[k]] else []) := by
  unfold sel
  rw [List.range_succ, List.filterMap_append]
  congr 1
  cases h : v.testBit k <;> simp [h, hk]
theorem sel_le (ns : List (List UInt8)) (v k : Nat) : (sel ns v k).length ≤ k := by
  unfold sel
  exact Nat.le_trans (List.length_filterMap_le _ _) (by simp)
theorem nodup_ix (ns : List (List UInt8)) (hn : ns.Nodup) (i : Nat) (hi : i < ns.length) : ix ns ns[i] = (i : Int) := by
  have h0 := ix_mem ns ns[i] (List.getElem_mem hi)
  have h1 := ix_at ns ns[i] h0
  have h2 := ix_lt ns ns[i]
  have h3 : (ix ns ns[i]).toNat = i := by
    rw [List.getElem?_eq_getElem (by omega)] at h1
    exact (List.getElem_inj hn).1 (Option.some.inj h1)
  omega
theorem mem_sel (ns : List (List UInt8)) (hn : ns.Nodup) (v : Nat) (nm : List UInt8) : nm ∈ sel ns v ns.length ↔ tv ns v nm = true := by
  unfold sel tv
  rw [List.mem_filterMap]
  constructor
  · rintro ⟨i, hi, h⟩
    split at h
    · rename_i hb
      obtain ⟨hi2, rfl⟩ := List.getElem?_eq_some_iff.1 h
      rw [nodup_ix ns hn i hi2]
      simp [hb]
    · simp at h
  · intro h
    simp only [Bool.and_eq_true, decide_eq_true_eq] at h
    refine ⟨(ix ns nm).toNat, List.mem_range.2 (by have := ix_lt ns nm; omega), ?_⟩
    rw [if_pos h.2]
    exact ix_at ns nm h.1
/-- among the texts of those -/
theorem among_sel (ns : List (List UInt8)) (hn : ns.Nodup) (v : Nat) : amongB ((sel ns v ns.length).map fun l => (⟨l.toArray⟩ : ByteArray)) = tv ns v := by
  funext nm
  refine Bool.eq_iff_iff.2 ?_
  rw [← mem_sel ns hn v nm]
  unfold amongB
  rw [List.any_map, List.any_eq_true]
  constructor
  · rintro ⟨s, hs, h⟩
    simp only [Function.comp, beq_iff_eq] at h
    exact h ▸ hs
  · intro h
    exact ⟨nm, h, by simp⟩
/-- the first values at which a name alone decides -/
def hit (says : Nat → Bool) (k v : Nat) : Bool := !v.testBit k && (says v != says (v ||| 2 ^ k))
def least (says : Nat → Bool) (n k : Nat) : Option Nat := (List.range (2 ^ n)).find? (hit says k)
/-- a pair -/
structure Pr where
  name : List UInt8
  off : Nat
  k : Nat
/-- the pairs of the first names -/
def pairsTo (says : Nat → Bool) (ns : List (List UInt8)) (m : Nat) : List Pr := (List.range m).filterMap fun k => (least says ns.length k).bind fun v => ns[k]?.map fun nm => ⟨nm, v, k⟩
theorem pairsTo_succ (says : Nat → Bool) (ns : List (List UInt8)) (m : Nat) (hm : m < ns.length) : pairsTo says ns (m + 1) = pairsTo says ns m ++ (match least says ns.length m with | some v => [⟨ns[m], v, m⟩] | none => []) := by
  unfold pairsTo
  rw [List.range_succ, List.filterMap_append]
  congr 1
  cases h : least says ns.length m with
  | none => simp [h]
  | some v => simp [h, hm]
theorem pairsTo_le (says : Nat → Bool) (ns : List (List UInt8)) (m : Nat) : (pairsTo says ns m).length ≤ m := by
  unfold pairsTo
  exact Nat.le_trans (List.length_filterMap_le _ _) (by simp)
theorem least_some (says : Nat → Bool) (n k v : Nat) (h : least says n k = some v) : v < 2 ^ n ∧ hit says k v = true := by
  unfold least at h
  exact ⟨List.mem_range.1 (List.mem_of_find?_eq_some h), List.find?_some h⟩
theorem mem_pairs (says : Nat → Bool) (ns : List (List UInt8)) (m : Nat) (p : Pr) (h : p ∈ pairsTo says ns m) : p.k < m ∧ ns[p.k]? = some p.name ∧ least says ns.length p.k = some p.off := by
  unfold pairsTo at h
  rw [List.mem_filterMap] at h
  obtain ⟨k, hk, h⟩ := h
  cases hl : least says ns.length k with
  | none => rw [hl] at h; simp at h
  | some v =>
    rw [hl] at h
    cases hn : ns[k]? with
    | none => rw [hn] at h; simp at h
    | some nm =>
      rw [hn] at h
      simp at h
      subst h
      exact ⟨List.mem_range.1 hk, hn, hl⟩
/-- a name that has no pair never makes a difference -/
theorem none_same (x : Ex) (ns : List (List UInt8)) (k : Nat) (hk : k < ns.length) (h : least (sayV x ns) ns.length k = none) (u a b : Nat) (ha : ∀ i, i < 64 → a.testBit i = (u.testBit i && !decide (i = k))) (hb : ∀ i, i < 64 → b.testBit i = (u.testBit i || decide (i = k))) (hn : ns.length ≤ 8) : sayV x ns a = sayV x ns b := by
  unfold least at h
  rw [List.find?_eq_none] at h
  have h1 := h (a % 2 ^ ns.length) (List.mem_range.2 (Nat.mod_lt _ (Nat.two_pow_pos _)))
  unfold hit at h1
  have t0 : (a % 2 ^ ns.length).testBit k = false := by
    rw [Nat.testBit_mod_two_pow, ha k (by omega)]
    simp
  rw [t0] at h1
  simp only [Bool.not_false, Bool.true_and, bne_iff_ne, ne_eq, Decidable.not_not] at h1
  rw [sayV_congr x ns a (a % 2 ^ ns.length) (fun i hi => by rw [Nat.testBit_mod_two_pow]; simp [hi]), h1]
  refine sayV_congr x ns _ _ fun i hi => ?_
  rw [Nat.testBit_or, Nat.testBit_mod_two_pow, ha i (by omega), hb i (by omega), Nat.testBit_two_pow]
  by_cases e : i = k
  · simp [e]
  · have e2 : ¬ k = i := fun h => e h.symm
    simp [e, e2, hi]
/-- the values of which one asks so far: as a row of bools -/
def tableTo (says : Nat → Bool) (m : Nat) : List Bool := (List.range m).map says
end Cv
end
end Go.Proofs.YtblfeahbpklgiaaGreatDoor
