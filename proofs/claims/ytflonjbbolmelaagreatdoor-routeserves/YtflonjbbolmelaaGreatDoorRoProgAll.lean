/-
  What a table that check passes is like: its numbers are there, and are few. Plain mathematics of chapter 11: a table's program, and that its own check finds nothing.
-/
import Derived.Test.YtflonjbbolmelaaGreatDoorRoTwiceAll
import Derived.Test.YtflonjbbolmelaaGreatDoorScBound
namespace Go.Proofs.YtflonjbbolmelaaGreatDoor
section
namespace Ro
theorem ok_of (t : Tbl) (h : check t = none) : sized t = true ∧ ∀ r, r ∈ t.rts → wrongR t.secs t.pts r = 0 := by
  unfold check at h
  split at h
  · cases h
  · rename_i h1
    refine ⟨by simpa using h1, fun r hr => ?_⟩
    have hf : firstBad t = none := by
      cases hc : firstBad t with
      | none => rfl
      | some i => rw [hc] at h; cases h
    unfold firstBad at hf
    rw [List.findIdx?_eq_none_iff] at hf
    simpa using hf r hr
theorem wrong_zero (s p : Int) (r : Rt) (h : wrongR s p r = 0) : beyond r.secs s = false ∧ beyond (nums r) p = false := by
  unfold wrongR at h
  split at h
  · cases h
  · split at h
    · cases h
    · rename_i h2
      simpa using h2
theorem beyond_mem {l : List Int} {m : Int} (h : beyond l m = false) (x : Int) (hx : x ∈ l) : 0 ≤ x ∧ x ≤ m - 1 := by
  unfold beyond at h
  rw [List.any_eq_false] at h
  have := h x hx
  unfold fromTo at this
  simp at this
  omega
theorem beyond_of {l : List Int} {m : Int} (h : ∀ x, x ∈ l → 0 ≤ x ∧ x ≤ m - 1) : beyond l m = false := by
  unfold beyond
  rw [List.any_eq_false]
  intro x hx
  have := h x hx
  unfold fromTo
  simp
  omega
/-- numbers below m, none twice, are at most m -/
theorem few_of : ∀ (m : Nat) (l : List Int), l.Nodup → (∀ x, x ∈ l → 0 ≤ x ∧ x < (m : Int)) → l.length ≤ m
  | 0, l, _, h => by
    cases l with
    | nil => exact Nat.le_refl _
    | cons a l => have := h a (by simp); omega
  | m + 1, l, hd, h => by
    have h1 : (l.erase (m : Int)).length ≤ m := few_of m (l.erase (m : Int)) (hd.erase _) fun x hx => by
      obtain ⟨hne, hm⟩ := (hd.mem_erase_iff).1 hx
      have := h x hm
      omega
    rw [List.length_erase] at h1
    split at h1 <;> omega
theorem wrong_nodup (s p : Int) (r : Rt) (h : wrongR s p r = 0) : r.secs ≠ [] ∧ r.secs.Nodup ∧ (nums r).Nodup := by
  unfold wrongR at h
  split at h
  · cases h
  · rename_i h1
    split at h
    · cases h
    · split at h
      · cases h
      · rename_i h3
        unfold twice at h3
        simp at h3
        exact ⟨h1, h3⟩
/-- a table's numbers -/
structure Fits (t : Tbl) (S P : Nat) : Prop where
  hS : t.secs = (S : Int)
  hP : t.pts = (P : Int)
  S3 : S ≤ 3
  P2 : P ≤ 2
  R1 : 1 ≤ t.rts.length
  R3 : t.rts.length ≤ 3
  secs : ∀ r, r ∈ t.rts → ∀ s, s ∈ r.secs → 0 ≤ s ∧ s < (S : Int)
  pts : ∀ r, r ∈ t.rts → ∀ q, q ∈ r.pts → 0 ≤ q.1 ∧ q.1 < (P : Int)
  some : ∀ r, r ∈ t.rts → r.secs ≠ []
  ls : ∀ r, r ∈ t.rts → r.secs.length ≤ 3
  lp : ∀ r, r ∈ t.rts → r.pts.length ≤ 2
theorem fits_of (t : Tbl) (h : check t = none) : ∃ S P, Fits t S P := by
  obtain ⟨h1, h2⟩ := ok_of t h
  obtain ⟨hs, hp, hn⟩ := (sized_iff t).1 h1
  have hS : t.secs = ((t.secs.toNat : Nat) : Int) := by omega
  have hP : t.pts = ((t.pts.toNat : Nat) : Int) := by omega
  have ks : ∀ r, r ∈ t.rts → ∀ s, s ∈ r.secs → 0 ≤ s ∧ s < ((t.secs.toNat : Nat) : Int) := fun r hr s hs' => by
    have := beyond_mem (wrong_zero _ _ r (h2 r hr)).1 s hs'
    omega
  have kp : ∀ r, r ∈ t.rts → ∀ q, q ∈ r.pts → 0 ≤ q.1 ∧ q.1 < ((t.pts.toNat : Nat) : Int) := fun r hr q hq => by
    have := beyond_mem (wrong_zero _ _ r (h2 r hr)).2 q.1 (List.mem_map.2 ⟨q, hq, rfl⟩)
    omega
  refine ⟨t.secs.toNat, t.pts.toNat, hS, hP, by omega, by omega, by omega, by omega, ks, kp, fun r hr => (wrong_nodup _ _ r (h2 r hr)).1, fun r hr => ?_, fun r hr => ?_⟩
  · have := few_of _ r.secs (wrong_nodup _ _ r (h2 r hr)).2.1 (ks r hr)
    omega
  · have h3 := few_of _ (nums r) (wrong_nodup _ _ r (h2 r hr)).2.2 (fun x hx => by
      obtain ⟨q, hq, rfl⟩ := List.mem_map.1 hx
      exact kp r hr q hq)
    have h4 : (nums r).length = r.pts.length := List.length_map ..
    omega
end Ro
end
section
namespace Ro
open Ld (Nme Rng Prg number)
/-- a letter and a number -/
def pnm (c : UInt8) (i : Nat) : List UInt8 := [c, UInt8.ofNat (48 + i)]
def bitE (c : UInt8) (i : Nat) : Ex := ⟨2, pnm c i, []⟩
def notE (c : UInt8) (i : Nat) : Ex := ⟨5, [], [bitE c i]⟩
def allE : List Ex → Ex
  | [x] => x
  | l => ⟨6, [], l⟩
def someE : List Ex → Ex
  | [x] => x
  | l => ⟨7, [], l⟩
def freeE (r : Rt) : List Ex := r.secs.map fun s => notE 98 s.toNat
def letE (t : Tbl) (i : Nat) : Rng := ⟨3, pnm 108 i, some (allE (notE 97 i :: freeE (rt t i)))⟩
def lockE (t : Tbl) (i : Nat) : Rng := ⟨2, pnm 108 i, some (allE ((bitE 97 i :: freeE (rt t i)) ++ (clashing t i).map (notE 108)))⟩
def layE (t : Tbl) (p : Nat) (b : Bool) : List Rng := if wanting t ((p : Int), b) = [] then [] else [⟨if b then 2 else 3, pnm 112 p, some (someE ((wanting t ((p : Int), b)).map (bitE 108)))⟩]
def laysE (t : Tbl) (k : Nat) : List Rng := (List.range k).flatMap fun p => layE t p true ++ layE t p false
def namesE (R S P : Nat) : List Nme := (((List.range R).map fun i => ⟨pnm 97 i, 1, 0⟩) ++ ((List.range S).map fun i => ⟨pnm 98 i, 1, 0⟩) ++ ((List.range R).map fun i => ⟨pnm 108 i, 2, 0⟩)) ++ ((List.range P).map fun i => ⟨pnm 112 i, 2, 0⟩)
def ladderE (t : Tbl) (S P : Nat) : Prg := ⟨namesE t.rts.length S P, ((List.range t.rts.length).map (letE t) ++ (List.range t.rts.length).map (lockE t)) ++ laysE t P⟩
theorem namesE_len (R S P : Nat) : (namesE R S P).length = R + S + R + P := by unfold namesE; simp; omega
theorem num_a : ∀ R, R < 4 → ∀ S, S < 4 → ∀ P, P < 3 → ∀ i, i < R → number (namesE R S P) (pnm 97 i) = (i : Int) := by decide +kernel
theorem num_b : ∀ R, R < 4 → ∀ S, S < 4 → ∀ P, P < 3 → ∀ i, i < S → number (namesE R S P) (pnm 98 i) = ((R + i : Nat) : Int) := by decide +kernel
theorem num_l : ∀ R, R < 4 → ∀ S, S < 4 → ∀ P, P < 3 → ∀ i, i < R → number (namesE R S P) (pnm 108 i) = ((R + S + i : Nat) : Int) := by decide +kernel
theorem num_p : ∀ R, R < 4 → ∀ S, S < 4 → ∀ P, P < 3 → ∀ i, i < P → number (namesE R S P) (pnm 112 i) = ((R + S + R + i : Nat) : Int) := by decide +kernel
theorem kind_in : ∀ R, R < 4 → ∀ S, S < 4 → ∀ P, P < 3 → Ld.kindL (namesE R S P) 1 = List.range (R + S) := by decide +kernel
theorem kind_out : ∀ R, R < 4 → ∀ S, S < 4 → ∀ P, P < 3 → ∀ i, i < R + P → Ld.kindAt (namesE R S P) ((R + S + i : Nat) : Int) = 2 := by decide +kernel
theorem names_ok : ∀ R, R < 4 → ∀ S, S < 4 → ∀ P, P < 3 → Ld.bad (Ld.nameAt (namesE R S P)) (namesE R S P).length = none := by decide +kernel
theorem bitE_named (c : UInt8) (i : Nat) : (bitE c i).named true = [pnm c i] := by unfold bitE; rw [Ex.named2]; rfl
theorem notE_named (c : UInt8) (i : Nat) : (notE c i).named true = [pnm c i] := by
  unfold notE
  rw [Ex.named_of _ _ _ _ (by decide)]
  simp [bitE_named]
theorem allE_named (l : List Ex) (s : List UInt8) (h : s ∈ (allE l).named true) : ∃ x, x ∈ l ∧ s ∈ x.named true := by
  unfold allE at h
  split at h
  · exact ⟨_, by simp, h⟩
  · rw [Ex.named_of _ _ _ _ (by decide)] at h
    obtain ⟨y, hy, hs⟩ := List.mem_flatten.1 h
    obtain ⟨x, hx, rfl⟩ := List.mem_map.1 hy
    exact ⟨x, hx, hs⟩
theorem someE_named (l : List Ex) (s : List UInt8) (h : s ∈ (someE l).named true) : ∃ x, x ∈ l ∧ s ∈ x.named true := by
  unfold someE at h
  split at h
  · exact ⟨_, by simp, h⟩
  · rw [Ex.named_of _ _ _ _ (by decide)] at h
    obtain ⟨y, hy, hs⟩ := List.mem_flatten.1 h
    obtain ⟨x, hx, rfl⟩ := List.mem_map.1 hy
    exact ⟨x, hx, hs⟩
theorem wrong_none (ns : List Nme) (kind : Int) (hk : kind = 2 ∨ kind = 3) (name : List UInt8) (n : Nat) (hn : number ns name = (n : Int)) (h2 : Ld.kindAt ns (n : Int) = 2) (x : Ex) (hx : ∀ s, s ∈ x.named true → 0 ≤ number ns s) : Ld.wrongR ns ⟨kind, name, some x⟩ = 0 := by
  unfold Ld.wrongR
  have hko : Ld.kindOf kind = 2 := by unfold Ld.kindOf; rw [if_neg (by omega), if_neg (by omega)]
  have hkn : Ld.known ns x = true := List.all_eq_true.2 fun s hs => decide_eq_true (hx s hs)
  simp only
  rw [if_neg (by omega), hn, if_neg (by omega), h2, hko, hkn]
  simp
theorem clashing_lt (t : Tbl) (i j : Nat) (h : j ∈ clashing t i) : j < t.rts.length ∧ j ≠ i := by
  unfold clashing clashTo at h
  obtain ⟨h1, h2⟩ := List.mem_filter.1 h
  simp at h2
  exact ⟨List.mem_range.1 h1, h2.1⟩
theorem wanting_lt (t : Tbl) (q : Int × Bool) (j : Nat) (h : j ∈ wanting t q) : j < t.rts.length := by
  unfold wanting wantTo at h
  exact List.mem_range.1 (List.mem_filter.1 h).1
theorem rt_in (t : Tbl) (i : Nat) (h : i < t.rts.length) : rt t i ∈ t.rts := List.mem_of_getElem? (rt_at t i h)
theorem free_named {t : Tbl} {S P : Nat} (f : Fits t S P) (i : Nat) (hi : i < t.rts.length) (x : Ex) (hx : x ∈ freeE (rt t i)) (s : List UInt8) (hs : s ∈ x.named true) : 0 ≤ number (namesE t.rts.length S P) s := by
  have hS := f.S3
  have hP := f.P2
  have hR := f.R3
  obtain ⟨n, hn, rfl⟩ := List.mem_map.1 hx
  rw [notE_named] at hs
  obtain rfl := List.mem_singleton.1 hs
  have := f.secs _ (rt_in t i hi) n hn
  rw [num_b _ (by omega) _ (by omega) _ (by omega) n.toNat (by omega)]
  omega
theorem mem_lays {t : Tbl} {k : Nat} {r : Rng} (h : r ∈ laysE t k) : ∃ p b, p < k ∧ r = ⟨if b then 2 else 3, pnm 112 p, some (someE ((wanting t ((p : Int), b)).map (bitE 108)))⟩ := by
  obtain ⟨p, hp, hr⟩ := List.mem_flatMap.1 h
  have hp' := List.mem_range.1 hp
  rcases List.mem_append.1 hr with hr | hr
  · unfold layE at hr
    split at hr
    · cases hr
    · exact ⟨p, true, hp', List.mem_singleton.1 hr⟩
  · unfold layE at hr
    split at hr
    · cases hr
    · exact ⟨p, false, hp', List.mem_singleton.1 hr⟩
theorem rung_ok {t : Tbl} {S P : Nat} (f : Fits t S P) (r : Rng) (hr : r ∈ (ladderE t S P).rungs) : Ld.wrongR (namesE t.rts.length S P) r = 0 := by
  have hS := f.S3
  have hP := f.P2
  have hR := f.R3
  have na : ∀ i, i < t.rts.length → 0 ≤ number (namesE t.rts.length S P) (pnm 97 i) := fun i hi => by rw [num_a _ (by omega) _ (by omega) _ (by omega) i hi]; omega
  have nl : ∀ i, i < t.rts.length → 0 ≤ number (namesE t.rts.length S P) (pnm 108 i) := fun i hi => by rw [num_l _ (by omega) _ (by omega) _ (by omega) i hi]; omega
  rcases List.mem_append.1 hr with hr | hr
  · rcases List.mem_append.1 hr with hr | hr
    · obtain ⟨i, hi, rfl⟩ := List.mem_map.1 hr
      have hi := List.mem_range.1 hi
      refine wrong_none _ _ (.inr rfl) _ _ (num_l _ (by omega) _ (by omega) _ (by omega) i hi) (kind_out _ (by omega) _ (by omega) _ (by omega) i (by omega)) _ fun s hs => ?_
      obtain ⟨x, hx, hs⟩ := allE_named _ _ hs
      rcases List.mem_cons.1 hx with rfl | hx
      · rw [notE_named] at hs
        obtain rfl := List.mem_singleton.1 hs
        exact na i hi
      · exact free_named f i hi x hx s hs
    · obtain ⟨i, hi, rfl⟩ := List.mem_map.1 hr
      have hi := List.mem_range.1 hi
      refine wrong_none _ _ (.inl rfl) _ _ (num_l _ (by omega) _ (by omega) _ (by omega) i hi) (kind_out _ (by omega) _ (by omega) _ (by omega) i (by omega)) _ fun s hs => ?_
      obtain ⟨x, hx, hs⟩ := allE_named _ _ hs
      rcases List.mem_append.1 hx with hx | hx
      · rcases List.mem_cons.1 hx with rfl | hx
        · rw [bitE_named] at hs
          obtain rfl := List.mem_singleton.1 hs
          exact na i hi
        · exact free_named f i hi x hx s hs
      · obtain ⟨j, hj, rfl⟩ := List.mem_map.1 hx
        rw [notE_named] at hs
        obtain rfl := List.mem_singleton.1 hs
        exact nl j (clashing_lt t i j hj).1
  · obtain ⟨p, b, hp, rfl⟩ := mem_lays hr
    refine wrong_none _ _ (by cases b <;> simp) _ _ (num_p _ (by omega) _ (by omega) _ (by omega) p hp) (by
      have := kind_out t.rts.length (by omega) S (by omega) P (by omega) (t.rts.length + p) (by omega)
      rw [← Nat.add_assoc] at this
      exact this) _ fun s hs => ?_
    obtain ⟨x, hx, hs⟩ := someE_named _ _ hs
    obtain ⟨j, hj, rfl⟩ := List.mem_map.1 hx
    rw [bitE_named] at hs
    obtain rfl := List.mem_singleton.1 hs
    exact nl j (wanting_lt t _ j hj)
theorem bad_all (f : Nat → Nat) : ∀ n, (∀ i, i < n → f i = 0) → Ld.bad f n = none
  | 0, _ => rfl
  | n + 1, h => Ld.bad_on f n (bad_all f n fun i hi => h i (by omega)) (h n (by omega))
theorem layE_len (t : Tbl) (p : Nat) (b : Bool) : (layE t p b).length ≤ 1 := by unfold layE; split <;> simp
theorem laysE_len (t : Tbl) : ∀ k, (laysE t k).length ≤ 2 * k
  | 0 => by simp [laysE]
  | k + 1 => by
    have ih := laysE_len t k
    have e : laysE t (k + 1) = laysE t k ++ (layE t k true ++ layE t k false) := by unfold laysE; rw [List.range_succ, List.flatMap_append]; simp
    have h1 := layE_len t k true
    have h2 := layE_len t k false
    rw [e, List.length_append, List.length_append]
    omega
/-- a table's program is one that may be -/
theorem ladder_ok {t : Tbl} {S P : Nat} (f : Fits t S P) : Ld.check (ladderE t S P) = none := by
  have hS := f.S3
  have hP := f.P2
  have hR := f.R3
  have hl := laysE_len t P
  unfold Ld.check
  have h1 : (ladderE t S P).names.length = t.rts.length + S + t.rts.length + P := namesE_len _ _ _
  have h2 : (ladderE t S P).rungs.length ≤ 10 := by
    unfold ladderE
    simp only [List.length_append, List.length_map, List.length_range]
    omega
  rw [if_neg (by omega)]
  have h3 : Ld.bad (Ld.nameAt (ladderE t S P).names) (ladderE t S P).names.length = none := names_ok _ (by omega) _ (by omega) _ (by omega)
  have h4 : Ld.bad (Ld.rungAt (ladderE t S P)) (ladderE t S P).rungs.length = none := bad_all _ _ fun i hi => by
    rw [Ld.rungAt_at _ _ hi]
    exact rung_ok f _ (List.getElem_mem hi)
  rw [h3]
  simp only
  rw [h4]
end Ro
end
end Go.Proofs.YtflonjbbolmelaaGreatDoor
