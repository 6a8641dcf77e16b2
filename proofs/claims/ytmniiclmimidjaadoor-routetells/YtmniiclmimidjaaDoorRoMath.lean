/-
  Plain mathematics of chapter 11: tables, which may be (11.1), the program that keeps one (11.2).
-/
import Derived.Test.YtmniiclmimidjaaDoorRoMathC
namespace Go.Proofs.YtmniiclmimidjaaDoor
namespace Ro
/-- a table: how many sections and points, and its routes -/
structure Tbl where
  secs : Int
  pts : Int
  rts : List Rt
def fromTo (l m n : Int) : Bool := decide (l ≤ n) && decide (n ≤ m)
def beyond (l : List Int) (m : Int) : Bool := l.any fun n => !fromTo 0 (m - 1) n
def nums (r : Rt) : List Int := r.pts.map fun p => p.1
def twice (l : List Int) : Bool := !decide l.Nodup
def wrongR (s p : Int) (r : Rt) : Nat := if r.secs = [] then 8 else if beyond r.secs s || beyond (nums r) p then 2 else if twice r.secs || twice (nums r) then 9 else 0
def sized (t : Tbl) : Bool := fromTo 1 3 t.secs && (fromTo 0 2 t.pts && fromTo 1 3 (t.rts.length : Int))
/-- the first route from k on that is wrong -/
def firstBad (t : Tbl) : Option Nat := t.rts.findIdx? fun r => wrongR t.secs t.pts r != 0
def badAt (t : Tbl) : Option Nat → Option (Nat × Option Nat)
  | some i => some (wrongR t.secs t.pts (t.rts.getD i ⟨[], []⟩), some i)
  | none => none
def check (t : Tbl) : Option (Nat × Option Nat) := if sized t = false then some (4, none) else badAt t (firstBad t)
theorem take_nodup (l : List Int) (k : Nat) (h : k < l.length) : (l.take (k + 1)).Nodup ↔ (l.take k).Nodup ∧ (l.take k).contains l[k] = false := by
  rw [List.take_succ_eq_append_getElem h, List.nodup_append]
  constructor
  · rintro ⟨h1, _, h2⟩
    refine ⟨h1, ?_⟩
    rw [← Bool.not_eq_true, List.contains_iff_mem]
    exact fun hm => h2 _ hm _ (List.mem_singleton.2 rfl) rfl
  · rintro ⟨h1, h2⟩
    refine ⟨h1, by simp, ?_⟩
    intro a ha b hb
    obtain rfl := List.mem_singleton.1 hb
    rintro rfl
    rw [← Bool.not_eq_true, List.contains_iff_mem] at h2
    exact h2 ha
theorem sized_iff (t : Tbl) : sized t = true ↔ (1 ≤ t.secs ∧ t.secs ≤ 3) ∧ (0 ≤ t.pts ∧ t.pts ≤ 2) ∧ 1 ≤ t.rts.length ∧ t.rts.length ≤ 3 := by
  unfold sized fromTo
  simp only [Bool.and_eq_true, decide_eq_true_eq]
  omega
theorem firstBad_hit (t : Tbl) (k : Nat) (h : k < t.rts.length) (hk : wrongR t.secs t.pts t.rts[k] ≠ 0) (hb : ∀ (j : Nat) r, j < k → t.rts[j]? = some r → wrongR t.secs t.pts r = 0) : firstBad t = some k := by
  unfold firstBad
  rw [List.findIdx?_eq_some_iff_getElem]
  refine ⟨h, by simpa using hk, fun j hj => ?_⟩
  have := hb j t.rts[j] hj (List.getElem?_eq_getElem (by omega))
  simp [this]
theorem firstBad_none (t : Tbl) (hb : ∀ (j : Nat) r, j < t.rts.length → t.rts[j]? = some r → wrongR t.secs t.pts r = 0) : firstBad t = none := by
  unfold firstBad
  rw [List.findIdx?_eq_none_iff]
  intro x hx
  obtain ⟨i, hi, rfl⟩ := List.getElem_of_mem hx
  have := hb i t.rts[i] hi (List.getElem?_eq_getElem hi)
  simp [this]
/-- route number i -/
def rt (t : Tbl) (i : Nat) : Rt := t.rts.getD i ⟨[], []⟩
theorem rt_at (t : Tbl) (i : Nat) (h : i < t.rts.length) : t.rts[i]? = some (rt t i) := by
  rw [List.getElem?_eq_getElem h]
  unfold rt
  simp [h]
/-- the numbers below k of the other routes that clash with route i -/
def clashTo (t : Tbl) (i k : Nat) : List Nat := (List.range k).filter fun j => decide (j ≠ i) && clash (rt t i) (rt t j)
theorem clashTo_succ (t : Tbl) (i k : Nat) : clashTo t i (k + 1) = clashTo t i k ++ (if (decide (k ≠ i) && clash (rt t i) (rt t k)) = true then [k] else []) := by
  unfold clashTo
  rw [List.range_succ, List.filter_append]
  congr 1
  rw [List.filter_cons, List.filter_nil]
theorem clashTo_len (t : Tbl) (i k : Nat) : (clashTo t i k).length ≤ k := by
  unfold clashTo
  have := List.length_filter_le (fun j => decide (j ≠ i) && clash (rt t i) (rt t j)) (List.range k)
  simpa using this
def clashing (t : Tbl) (i : Nat) : List Nat := clashTo t i t.rts.length
/-- the routes below k that want a point so -/
def wantTo (t : Tbl) (p : Int × Bool) (k : Nat) : List Nat := (List.range k).filter fun j => (rt t j).pts.contains p
theorem wantTo_succ (t : Tbl) (p : Int × Bool) (k : Nat) : wantTo t p (k + 1) = wantTo t p k ++ (if (rt t k).pts.contains p = true then [k] else []) := by
  unfold wantTo
  rw [List.range_succ, List.filter_append]
  congr 1
  rw [List.filter_cons, List.filter_nil]
theorem wantTo_len (t : Tbl) (p : Int × Bool) (k : Nat) : (wantTo t p k).length ≤ k := by
  unfold wantTo
  have := List.length_filter_le (fun j => (rt t j).pts.contains p) (List.range k)
  simpa using this
def wanting (t : Tbl) (p : Int × Bool) : List Nat := wantTo t p t.rts.length
end Ro
end Go.Proofs.YtmniiclmimidjaaDoor
