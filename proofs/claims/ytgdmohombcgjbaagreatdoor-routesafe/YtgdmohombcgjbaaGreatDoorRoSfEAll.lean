/-
  Plain mathematics of chapter 11: the interlocking is safe. What holds behind each scan. The walks of package route's lies and rests: what must hold of a locked route's points, as expressions.
-/
import Derived.Test.YtgdmohombcgjbaaGreatDoorRoServe
import Derived.Test.YtgdmohombcgjbaaGreatDoorRoPrgAll
import Derived.Deep.RegionHeld3
import Derived.Deep.DeepCutAuto
namespace Go.Proofs.YtgdmohombcgjbaaGreatDoor
section
namespace Ro
open Ld (Nme Rng Prg number)
theorem any_same {α : Type} (f g : α → Bool) : ∀ (l : List α), (∀ x, x ∈ l → f x = g x) → l.any f = l.any g
  | [], _ => rfl
  | a :: l, h => by rw [List.any_cons, List.any_cons, h a (by simp), any_same f g l fun x hx => h x (by simp [hx])]
theorem eval_some (is was : List UInt8 → Bool) (l : List Ex) : (someE l).eval is was = l.any fun x => x.eval is was := by
  unfold someE
  split
  · simp
  · simp [Ex.eval, List.any_map]
/-- no two routes that clash are locked -/
def Apart (t : Tbl) (S : Nat) (s : Sc.St) : Prop := ∀ i, i < t.rts.length → ∀ j, j < t.rts.length → i ≠ j → clash (rt t i) (rt t j) = true → ¬(v s (t.rts.length + S + i) = true ∧ v s (t.rts.length + S + j) = true)
/-- the points of a locked route lie as it wants -/
def Lies (t : Tbl) (S : Nat) (s : Sc.St) : Prop := ∀ i, i < t.rts.length → v s (t.rts.length + S + i) = true → ∀ q, q ∈ (rt t i).pts → v s (t.rts.length + S + t.rts.length + q.1.toNat) = q.2
theorem Apart.less {t : Tbl} {S : Nat} {s s' : Sc.St} (h : Apart t S s) (hl : ∀ i, i < t.rts.length → v s' (t.rts.length + S + i) = true → v s (t.rts.length + S + i) = true) : Apart t S s' := fun i hi j hj hne hc ⟨h1, h2⟩ => h i hi j hj hne hc ⟨hl i hi h1, hl j hj h2⟩
theorem mem_clashing {t : Tbl} {i j : Nat} (hj : j < t.rts.length) (hne : j ≠ i) (hc : clash (rt t i) (rt t j) = true) : j ∈ clashing t i := by
  unfold clashing clashTo
  exact List.mem_filter.2 ⟨List.mem_range.2 hj, by simp [hne, hc]⟩
theorem lock_apart {t : Tbl} {S P : Nat} (f : Fits t S P) (was : List Bool) (s : Sc.St) (hl : s.is.length = t.rts.length + S + t.rts.length + P) (h : Apart t S s) : ∀ k, k ≤ t.rts.length →
    (((List.range k).map (lockE t)).foldl (Sc.doRung (namesE t.rts.length S P) was) s).is.length = s.is.length ∧ Apart t S (((List.range k).map (lockE t)).foldl (Sc.doRung (namesE t.rts.length S P) was) s)
  | 0, _ => ⟨rfl, h⟩
  | k + 1, hk => by
    obtain ⟨h1, h2⟩ := lock_apart f was s hl h k (by omega)
    rw [List.range_succ, List.map_append, List.foldl_append]
    generalize ((List.range k).map (lockE t)).foldl (Sc.doRung (namesE t.rts.length S P) was) s = s' at *
    obtain ⟨h3, h4⟩ := lock_do f was s' (by omega) k (by omega)
    refine ⟨h3.trans h1, ?_⟩
    show Apart t S (Sc.doRung (namesE t.rts.length S P) was s' (lockE t k))
    generalize Sc.doRung (namesE t.rts.length S P) was s' (lockE t k) = s2 at *
    by_cases hn : v s' (t.rts.length + S + k) = true
    · refine h2.less fun i hi hv => ?_
      rw [h4] at hv
      split at hv
      · rename_i e
        rw [e]
        exact hn
      · exact hv
    · have hn' : v s' (t.rts.length + S + k) = false := by simpa using hn
      have key : ∀ j, j < t.rts.length → j ≠ k → clash (rt t k) (rt t j) = true → ¬(v s2 (t.rts.length + S + k) = true ∧ v s2 (t.rts.length + S + j) = true) := by
        rintro j hj hne hc ⟨e1, e2⟩
        rw [h4, if_pos rfl, hn', Bool.false_or, Bool.and_eq_true, List.all_eq_true] at e1
        have := e1.2 j (mem_clashing hj hne hc)
        rw [h4, if_neg (by omega)] at e2
        rw [e2] at this
        cases this
      intro i hi j hj hne hc ⟨e1, e2⟩
      by_cases ei : i = k
      · subst ei
        exact key j hj (fun e => hne e.symm) hc ⟨e1, e2⟩
      · by_cases ej : j = k
        · subst ej
          exact key i hi hne (by rw [clash_comm]; exact hc) ⟨e2, e1⟩
        · rw [h4, if_neg (by omega)] at e1 e2
          exact h2 i hi j hj hne hc ⟨e1, e2⟩
/-- is one locked that wants a point so? -/
def wants (t : Tbl) (S : Nat) (s : Sc.St) (p : Nat) (b : Bool) : Bool := (wanting t ((p : Int), b)).any fun j => v s (t.rts.length + S + j)
theorem lay_do {t : Tbl} {S P : Nat} (f : Fits t S P) (was : List Bool) (s : Sc.St) (hl : s.is.length = t.rts.length + S + t.rts.length + P) (p : Nat) (hp : p < P) (b : Bool) :
    ((layE t p b).foldl (Sc.doRung (namesE t.rts.length S P) was) s).is.length = s.is.length ∧ ∀ j, v ((layE t p b).foldl (Sc.doRung (namesE t.rts.length S P) was) s) j = if j = t.rts.length + S + t.rts.length + p then (if b then v s (t.rts.length + S + t.rts.length + p) || wants t S s p b else v s (t.rts.length + S + t.rts.length + p) && !wants t S s p b) else v s j := by
  have hS := f.S3
  have hP := f.P2
  have hR := f.R3
  unfold layE
  split
  · rename_i e
    refine ⟨rfl, fun j => ?_⟩
    have : wants t S s p b = false := by unfold wants; rw [e]; rfl
    rw [this]
    split
    · rename_i e
      rw [e]
      cases b <;> simp
    · rfl
  · have hn := num_p t.rts.length (by omega) S (by omega) P (by omega) p hp
    have he : (someE ((wanting t ((p : Int), b)).map (bitE 108))).eval (Sc.told (namesE t.rts.length S P) s.is) (Sc.told (namesE t.rts.length S P) was) = wants t S s p b := by
      rw [eval_some, List.any_map]
      unfold wants
      apply any_same
      intro j hj
      show (bitE 108 j).eval _ _ = _
      rw [eval_bit, told_at (num_l _ (by omega) _ (by omega) _ (by omega) j (wanting_lt t _ j hj))]
      rfl
    cases b
    · show (Sc.doRung _ _ s ⟨3, _, some _⟩).is.length = _ ∧ ∀ j, v (Sc.doRung _ _ s ⟨3, _, some _⟩) j = _
      rw [do3 hn, he]
      exact ⟨by simp, fun j => v_set s _ _ j (by omega)⟩
    · show (Sc.doRung _ _ s ⟨2, _, some _⟩).is.length = _ ∧ ∀ j, v (Sc.doRung _ _ s ⟨2, _, some _⟩) j = _
      rw [do2 hn, he]
      exact ⟨by simp, fun j => v_set s _ _ j (by omega)⟩
theorem wants_congr {t : Tbl} {S : Nat} {s s' : Sc.St} {p : Nat} {b : Bool} (h : ∀ i, i < t.rts.length → v s' (t.rts.length + S + i) = v s (t.rts.length + S + i)) : wants t S s' p b = wants t S s p b := any_same _ _ _ fun j hj => h j (wanting_lt t _ j hj)
theorem lays_do {t : Tbl} {S P : Nat} (f : Fits t S P) (was : List Bool) (s : Sc.St) (hl : s.is.length = t.rts.length + S + t.rts.length + P) : ∀ k, k ≤ P →
    ((laysE t k).foldl (Sc.doRung (namesE t.rts.length S P) was) s).is.length = s.is.length ∧ (∀ j, j < t.rts.length + S + t.rts.length → v ((laysE t k).foldl (Sc.doRung (namesE t.rts.length S P) was) s) j = v s j) ∧ ∀ p, p < k → v ((laysE t k).foldl (Sc.doRung (namesE t.rts.length S P) was) s) (t.rts.length + S + t.rts.length + p) = ((v ((laysE t k).foldl (Sc.doRung (namesE t.rts.length S P) was) s) (t.rts.length + S + t.rts.length + p) || wants t S s p true) && !wants t S s p false)
  | 0, _ => ⟨rfl, fun _ _ => rfl, fun p hp => by omega⟩
  | k + 1, hk => by
    obtain ⟨h1, h2, h3⟩ := lays_do f was s hl k (by omega)
    have e : laysE t (k + 1) = laysE t k ++ (layE t k true ++ layE t k false) := by unfold laysE; rw [List.range_succ, List.flatMap_append]; simp
    rw [e, List.foldl_append, List.foldl_append]
    generalize (laysE t k).foldl (Sc.doRung (namesE t.rts.length S P) was) s = s1 at *
    obtain ⟨a1, a2⟩ := lay_do f was s1 (by omega) k (by omega) true
    generalize (layE t k true).foldl (Sc.doRung (namesE t.rts.length S P) was) s1 = s2 at *
    obtain ⟨b1, b2⟩ := lay_do f was s2 (by omega) k (by omega) false
    generalize (layE t k false).foldl (Sc.doRung (namesE t.rts.length S P) was) s2 = s3 at *
    have w1 : ∀ b, wants t S s1 k b = wants t S s k b := fun b => wants_congr fun i hi => h2 _ (by omega)
    have w2 : ∀ b, wants t S s2 k b = wants t S s k b := fun b => (wants_congr fun i hi => by rw [a2, if_neg (by omega)]).trans (w1 b)
    refine ⟨by omega, fun j hj => by rw [b2, if_neg (by omega), a2, if_neg (by omega), h2 j hj], fun p hp => ?_⟩
    by_cases ep : p = k
    · subst ep
      rw [b2, if_pos rfl, a2, if_pos rfl, w1, w2]
      cases v s1 (t.rts.length + S + t.rts.length + p) <;> cases wants t S s p true <;> cases wants t S s p false <;> rfl
    · rw [b2, if_neg (by omega), a2, if_neg (by omega)]
      exact h3 p (by omega)
theorem pts_one {r : Rt} (h : (nums r).Nodup) {n : Int} (h1 : (n, true) ∈ r.pts) (h2 : (n, false) ∈ r.pts) : False := by
  unfold nums at h
  obtain ⟨l, m, e⟩ := List.append_of_mem h1
  rw [e] at h2 h
  rw [List.map_append, List.map_cons, List.nodup_append] at h
  obtain ⟨-, g2, g3⟩ := h
  rcases List.mem_append.1 h2 with h2 | h2
  · exact g3 n (List.mem_map.2 ⟨_, h2, rfl⟩) n (by simp) rfl
  · rcases List.mem_cons.1 h2 with h2 | h2
    · cases h2
    · exact (List.nodup_cons.1 g2).1 (List.mem_map.2 ⟨_, h2, rfl⟩)
theorem wants_of {t : Tbl} {S : Nat} {s : Sc.St} {i : Nat} (hi : i < t.rts.length) (hv : v s (t.rts.length + S + i) = true) {p : Nat} {b : Bool} (hq : ((p : Int), b) ∈ (rt t i).pts) : wants t S s p b = true := by
  unfold wants
  rw [List.any_eq_true]
  refine ⟨i, ?_, hv⟩
  unfold wanting wantTo
  exact List.mem_filter.2 ⟨List.mem_range.2 hi, by simpa using hq⟩
theorem wants_not {t : Tbl} {S : Nat} {s : Sc.St} (h : Apart t S s) (hnd : ∀ r, r ∈ t.rts → (nums r).Nodup) {i : Nat} (hi : i < t.rts.length) (hv : v s (t.rts.length + S + i) = true) {p : Nat} {b : Bool} (hq : ((p : Int), b) ∈ (rt t i).pts) : wants t S s p (!b) = false := by
  cases hw : wants t S s p (!b) with
  | false => rfl
  | true =>
    exfalso
    unfold wants at hw
    obtain ⟨j, hj, hvj⟩ := List.any_eq_true.1 hw
    have hj0 := hj
    unfold wanting wantTo at hj
    obtain ⟨hj1, hj2⟩ := List.mem_filter.1 hj
    have hj1 := List.mem_range.1 hj1
    have hj2 : ((p : Int), !b) ∈ (rt t j).pts := by simpa using hj2
    by_cases e : i = j
    · subst e
      cases b
      · exact pts_one (hnd _ (rt_in t i hi)) hj2 hq
      · exact pts_one (hnd _ (rt_in t i hi)) hq hj2
    · exact h i hi j hj1 e ((clash_iff _ _).2 (.inr ⟨(p : Int), !b, hj2, by rw [Bool.not_not]; exact hq⟩)) ⟨hv, hvj⟩
/-- one scan keeps what is safe -/
theorem step_safe {t : Tbl} {S P : Nat} (f : Fits t S P) (hnd : ∀ r, r ∈ t.rts → (nums r).Nodup) (s : Sc.St) (hl : s.is.length = t.rts.length + S + t.rts.length + P) (inp : List Bool) (hi : inp.length = t.rts.length + S) (h : Apart t S s) : Apart t S (Sc.step (ladderE t S P) s inp) ∧ Lies t S (Sc.step (ladderE t S P) s inp) := by
  obtain ⟨r1, r2, r3⟩ := read_v f s hl inp hi
  rw [step_eq]
  generalize hq : (⟨Sc.reads (Ld.kindL (namesE t.rts.length S P) 1) inp s.is, s.ct⟩ : Sc.St) = s0 at *
  have hl0 : s0.is.length = t.rts.length + S + t.rts.length + P := by rw [← hq]; exact r1.trans hl
  have h0 : Apart t S s0 := h.less fun i hi hv => by rw [r3 _ (by omega)] at hv; exact hv
  obtain ⟨a1, a2, a3⟩ := let_fold f s.is s0 hl0 t.rts.length (Nat.le_refl _)
  generalize ((List.range t.rts.length).map (letE t)).foldl (Sc.doRung (namesE t.rts.length S P) s.is) s0 = s1 at *
  have h1 : Apart t S s1 := h0.less fun i hi hv => by
    rw [a3 i hi, Bool.and_eq_true] at hv
    exact hv.1
  obtain ⟨b1, h2⟩ := lock_apart f s.is s1 (by omega) h1 t.rts.length (Nat.le_refl _)
  generalize ((List.range t.rts.length).map (lockE t)).foldl (Sc.doRung (namesE t.rts.length S P) s.is) s1 = s2 at *
  obtain ⟨c1, c2, c3⟩ := lays_do f s.is s2 (by omega) P (Nat.le_refl _)
  generalize (laysE t P).foldl (Sc.doRung (namesE t.rts.length S P) s.is) s2 = s3 at *
  refine ⟨h2.less fun i hi hv => by rw [c2 _ (by omega)] at hv; exact hv, fun i hi hv q hq => ?_⟩
  rw [c2 _ (by omega)] at hv
  have hb := f.pts _ (rt_in t i hi) q hq
  obtain ⟨n, b⟩ := q
  simp only at hb ⊢
  obtain ⟨p, rfl⟩ : ∃ p : Nat, n = (p : Int) := ⟨n.toNat, by omega⟩
  rw [Int.toNat_natCast]
  have x1 := wants_of hi hv hq
  have x2 := wants_not h2 hnd hi hv hq
  have x3 := c3 p (by omega)
  cases b
  · rw [x1] at x3
    rw [x3]
    simp
  · rw [x1, show wants t S s2 p false = false from x2] at x3
    rw [x3]
    simp
/-- while a route is locked, a point is as it wants it -/
def liesE (i : Nat) (q : Int × Bool) : Ex := ⟨7, [], [notE 108 i, if q.2 then bitE 112 q.1.toNat else notE 112 q.1.toNat]⟩
/-- while a route is locked, and was, a point does not move -/
def restsE (i : Nat) (q : Int × Bool) : Ex := ⟨7, [], [notE 108 i, ⟨3, pnm 108 i, []⟩, ⟨5, [], [⟨7, [], [⟨3, pnm 112 q.1.toNat, []⟩, ⟨4, pnm 112 q.1.toNat, []⟩]⟩]⟩]⟩
def bothE (j i : Nat) : Ex := ⟨5, [], [⟨6, [], [bitE 108 j, bitE 108 i]⟩]⟩
def partsE (t : Tbl) (i : Nat) : List Ex := ((clashing t i).filter fun j => decide (j < i)).map (fun j => bothE j i) ++ (rt t i).pts.flatMap fun q => [liesE i q, restsE i q]
def allE0 : List Ex → Ex
  | [] => ⟨1, [], []⟩
  | l => allE l
/-- what must hold behind each scan -/
def safeE (t : Tbl) : Ex := allE0 ((List.range t.rts.length).flatMap (partsE t))
theorem eval_all0 (is was : List UInt8 → Bool) (l : List Ex) : (allE0 l).eval is was = l.all fun x => x.eval is was := by
  cases l with
  | nil => simp [allE0, Ex.eval]
  | cons a l => exact eval_all is was (a :: l)
/-- it holds, where what stood ahead and what stands is safe -/
theorem safe_eval {t : Tbl} {S P : Nat} (f : Fits t S P) (s s' : Sc.St) (h1 : Lies t S s) (h2 : Apart t S s') (h3 : Lies t S s') : (safeE t).eval (Sc.told (namesE t.rts.length S P) s'.is) (Sc.told (namesE t.rts.length S P) s.is) = true := by
  have hS := f.S3
  have hP := f.P2
  have hR := f.R3
  unfold safeE
  rw [eval_all0, List.all_eq_true]
  intro x hx
  obtain ⟨i, hi, hx⟩ := List.mem_flatMap.1 hx
  have hi := List.mem_range.1 hi
  have tl : ∀ (l : List Bool) i, i < t.rts.length → Sc.told (namesE t.rts.length S P) l (pnm 108 i) = l.getD (t.rts.length + S + i) false := fun l i hi => told_at (num_l _ (by omega) _ (by omega) _ (by omega) i hi)
  have tp : ∀ (l : List Bool) p, p < P → Sc.told (namesE t.rts.length S P) l (pnm 112 p) = l.getD (t.rts.length + S + t.rts.length + p) false := fun l p hp => told_at (num_p _ (by omega) _ (by omega) _ (by omega) p hp)
  rcases List.mem_append.1 hx with hx | hx
  · obtain ⟨j, hj, rfl⟩ := List.mem_map.1 hx
    have hj0 := (List.mem_filter.1 hj).1
    obtain ⟨hj1, hj2⟩ := clashing_lt t i j hj0
    have hc : clash (rt t i) (rt t j) = true := by
      unfold clashing clashTo at hj0
      have := (List.mem_filter.1 hj0).2
      simp at this
      exact this.2
    have := h2 i hi j hj1 (fun e => hj2 e.symm) hc
    unfold v at this
    simp only [bothE, Ex.eval, bitE, List.map_cons, List.map_nil, List.any_cons, List.any_nil, List.all_cons, List.all_nil, id, Bool.or_false, Bool.and_true, tl _ _ hi, tl _ _ hj1]
    cases e1 : s'.is.getD (t.rts.length + S + i) false <;> cases e2 : s'.is.getD (t.rts.length + S + j) false <;> simp_all
  · obtain ⟨q, hq, hx⟩ := List.mem_flatMap.1 hx
    have hb := f.pts _ (rt_in t i hi) q hq
    have hqP : q.1.toNat < P := by omega
    have k1 := h1 i hi
    have k3 := h3 i hi
    unfold v at k1 k3
    have k1 := fun e => k1 e q hq
    have k3 := fun e => k3 e q hq
    rcases List.mem_cons.1 hx with rfl | hx
    · have he : (if q.2 then bitE 112 q.1.toNat else notE 112 q.1.toNat).eval (Sc.told (namesE t.rts.length S P) s'.is) (Sc.told (namesE t.rts.length S P) s.is) = (s'.is.getD (t.rts.length + S + t.rts.length + q.1.toNat) false == q.2) := by
        cases q.2
        · show (notE _ _).eval _ _ = _
          rw [eval_not, tp _ _ hqP]
          cases s'.is.getD (t.rts.length + S + t.rts.length + q.1.toNat) false <;> rfl
        · show (bitE _ _).eval _ _ = _
          rw [eval_bit, tp _ _ hqP]
          cases s'.is.getD (t.rts.length + S + t.rts.length + q.1.toNat) false <;> rfl
      simp only [liesE, Ex.eval, List.map_cons, List.map_nil, List.any_cons, List.any_nil, id, Bool.or_false, he, eval_not, tl _ _ hi]
      cases e1 : s'.is.getD (t.rts.length + S + i) false
      · simp
      · rw [k3 e1]; simp
    · obtain rfl := List.mem_singleton.1 hx
      simp only [restsE, Ex.eval, List.map_cons, List.map_nil, List.any_cons, List.any_nil, id, Bool.or_false, eval_not, tl _ _ hi, tp _ _ hqP]
      cases e1 : s'.is.getD (t.rts.length + S + i) false
      · simp
      · cases e2 : s.is.getD (t.rts.length + S + i) false
        · simp
        · rw [k3 e1, k1 e2]
          cases q.2 <;> rfl
theorem start_safe (t : Tbl) (S P : Nat) : Apart t S (Sc.start (ladderE t S P)) ∧ Lies t S (Sc.start (ladderE t S P)) := by
  have hz : ∀ j, v (Sc.start (ladderE t S P)) j = false := fun j => getD_rep _ _
  exact ⟨fun i _ j _ _ _ ⟨e, _⟩ => Bool.noConfusion ((hz _).symm.trans e), fun i _ e => Bool.noConfusion ((hz _).symm.trans e)⟩
/-- what is come to is safe -/
theorem after_safe {t : Tbl} {S P : Nat} (f : Fits t S P) (hnd : ∀ r, r ∈ t.rts → (nums r).Nodup) (ins : List (List Bool)) (hi : ∀ x, x ∈ ins → x.length = t.rts.length + S) : Apart t S (Sc.after (ladderE t S P) ins) ∧ Lies t S (Sc.after (ladderE t S P) ins) := by
  have key : ∀ (ins : List (List Bool)), (∀ x, x ∈ ins → x.length = t.rts.length + S) → ∀ s : Sc.St, s.is.length = t.rts.length + S + t.rts.length + P → Apart t S s ∧ Lies t S s → Apart t S (ins.foldl (Sc.step (ladderE t S P)) s) ∧ Lies t S (ins.foldl (Sc.step (ladderE t S P)) s) := by
    intro ins
    induction ins with
    | nil => intro _ s _ h; exact h
    | cons a ins ih => intro hi s hl h; exact ih (fun x hx => hi x (by simp [hx])) _ ((step_len t S P s a).trans hl) (step_safe f hnd s hl a (hi a (by simp)) h.1)
  exact key ins hi _ (by unfold Sc.start; simp only [List.length_replicate]; exact namesE_len _ _ _) (start_safe t S P)
end Ro
end
section
namespace Ro
open Go.RowKit
/-- a row of two or more in a block is a list -/
theorem isList_of {ok : Nat → Prop} {w : World} {t g n cap : Nat} {xs : List Ex} (hn : xs.length = n) (h2 : 2 ≤ n) (hm : n ≤ 1000) (hc : n ≤ cap) (hg : ok g) (h : ∀ (k : Nat) x, xs[k]? = some x → ∃ u, w.cell? ⟨g, k, none⟩ = some u ∧ IsEx ok w x u) : IsList ok w t xs.length (xs.map fun x => IsEx ok w x) (.iface t (.slice (some ⟨g, 0, none⟩) n cap)) := by
  refine ⟨by omega, by omega, g, cap, by rw [hn], by omega, hg, fun i P hP => ?_⟩
  rw [List.getElem?_map, Option.map_eq_some_iff] at hP
  obtain ⟨x, hx, rfl⟩ := hP
  exact h i x hx
theorem or_of {ok : Nat → Prop} {w : World} {g n cap : Nat} {xs : List Ex} (hn : xs.length = n) (h2 : 2 ≤ n) (hm : n ≤ 1000) (hc : n ≤ cap) (hg : ok g) (h : ∀ (k : Nat) x, xs[k]? = some x → ∃ u, w.cell? ⟨g, k, none⟩ = some u ∧ IsEx ok w x u) : IsEx ok w ⟨7, [], xs⟩ (.iface 143 (.slice (some ⟨g, 0, none⟩) n cap)) := by
  simp only [IsEx]
  exact ⟨trivial, isList_of hn h2 hm hc hg h⟩
theorem and_of {ok : Nat → Prop} {w : World} {g n cap : Nat} {xs : List Ex} (hn : xs.length = n) (h2 : 2 ≤ n) (hm : n ≤ 1000) (hc : n ≤ cap) (hg : ok g) (h : ∀ (k : Nat) x, xs[k]? = some x → ∃ u, w.cell? ⟨g, k, none⟩ = some u ∧ IsEx ok w x u) : IsEx ok w ⟨6, [], xs⟩ (.iface 101 (.slice (some ⟨g, 0, none⟩) n cap)) := by
  simp only [IsEx]
  exact ⟨trivial, isList_of hn h2 hm hc hg h⟩
theorem not_of {ok : Nat → Prop} {w : World} {x : Ex} {u : Value} (h : IsEx ok w x u) : IsEx ok w ⟨5, [], [x]⟩ (.iface 59 (.agg #[u])) := by
  simp only [IsEx]
  refine ⟨trivial, rfl, u, rfl, fun P hP => ?_⟩
  simp at hP
  subst hP
  exact h
theorem bit_of (ok : Nat → Prop) (w : World) (c : UInt8) (i : Nat) : IsEx ok w (bitE c i) (bitV c i) := (EV.isEx (.inl ⟨c, i, rfl, rfl⟩) ok w).1
theorem nbit_of (ok : Nat → Prop) (w : World) (c : UInt8) (i : Nat) : IsEx ok w (notE c i) (notV c i) := (EV.isEx (.inr ⟨c, i, rfl, rfl⟩) ok w).1
/-- which value a point's part is -/
def lieV (b : Bool) (p : Nat) : Value := if b then bitV 112 p else notV 112 p
theorem lie_of (ok : Nat → Prop) (w : World) (q : Int × Bool) : IsEx ok w (if q.2 then bitE 112 q.1.toNat else notE 112 q.1.toNat) (lieV q.2 q.1.toNat) := by
  unfold lieV
  cases q.2 with
  | true => exact bit_of ok w _ _
  | false => exact nbit_of ok w _ _
theorem drewS (w : World) : Below w.heap.size w w.drew := ⟨rfl, rfl, rfl, Nat.le_refl _, fun _ _ => rfl⟩
theorem two_vs (w : World) (a b : Value) (ha : ∃ t x, a = .iface t x) (hb : ∃ t x, b = .iface t x) : Vs (w.alloc (.cells #[a, b] 34)) (.slice (some ⟨w.heap.size, 0, none⟩) 2 2) [a, b] := by
  refine ⟨w.heap.size, 2, rfl, Nat.le_refl _, by simp, fun k u hu => ?_⟩
  match k, hu with
  | 0, hu => simp at hu; subst hu; exact ⟨by simp, ha⟩
  | 1, hu => simp at hu; subst hu; exact ⟨by simp, hb⟩
  | k + 2, hu => simp at hu
set_option maxHeartbeats 4000000 in
set_option maxRecDepth 100000 in
theorem lies_any (i p : Nat) (b : Bool) (hi : i < 4) (hp : p < 4) (w : World) :
    Calls Tryz.prog 18 #[.int .i64 (i : Int), .agg #[.int .i64 (p : Int), .bool b]] w fun e w' => ∃ v, e = .returned v ∧ IsEx (fun g => w.heap.size ≤ g) w' (liesE i ((p : Int), b)) v ∧ Below w.heap.size w w' := by
  obtain ⟨w1, hw1⟩ : ∃ w1, w1 = w.alloc (.cells #[.int .i64 (p : Int), .bool b] 61) := ⟨_, rfl⟩
  have hb1 : Below w.heap.size w w1 := by rw [hw1]; exact (Below.refl _ _).alloc (Nat.le_refl _) _
  have rT : RowIs w1 w.heap.size 61 [.int .i64 (p : Int), .bool b] := by rw [hw1]; exact RowIs.new _ _ _
  have c0 := rT.cell 0 _ rfl
  have c1 := rT.cell 1 _ rfl
  rw [hw1] at c1
  have HW1 := hide hw1
  have HB1 := hide hb1
  have HKE : Hid (∀ W, Below w1.heap.size w1 W → W.cell? ⟨w.heap.size, 0, none⟩ = some (.int .i64 (p : Int))) := fun W hW => (hW.cell (World.block_lt_of_cell? _ _ c0)).trans c0
  have HD := hide (drewS w1)
  have HN1 := hide (fun W => isNot_any 108 i hi W)
  have HFIN : Hid (∃ v, (Ending.returned (Value.iface 143 (.slice (some ⟨w1.heap.size, 0, none⟩) 2 2))) = .returned v ∧ IsEx (fun g => w.heap.size ≤ g) (w1.alloc (.cells #[notV 108 i, lieV b p] 34)).drew (liesE i ((p : Int), b)) v ∧ Below w.heap.size w (w1.alloc (.cells #[notV 108 i, lieV b p] 34)).drew) := by
    have hba := HB1.out.alloc HB1.out.size (.cells #[notV 108 i, lieV b p] 34)
    refine ⟨_, rfl, or_of rfl (by simp) (by simp) (by simp) HB1.out.size (fun k x hx => ?_), ⟨hba.os, hba.tape, hba.output, hba.size, hba.block⟩⟩
    match k, hx with
    | 0, hx => simp at hx; subst hx; exact ⟨notV 108 i, by show (w1.alloc _).cell? _ = _; simp, nbit_of _ _ _ _⟩
    | 1, hx =>
      simp at hx
      subst hx
      exact ⟨lieV b p, by show (w1.alloc _).cell? _ = _; simp, by have := lie_of (fun g => w.heap.size ≤ g) (w1.alloc (.cells #[notV 108 i, lieV b p] 34)).drew ((p : Int), b); simpa using this⟩
    | k + 2, hx => simp at hx
  have HSO := hide (some_any [notV 108 i, lieV b p] _ (w1.alloc (.cells #[notV 108 i, lieV b p] 34)).drew (two_vs w1 _ _ ⟨_, _, rfl⟩ (by unfold lieV; cases b <;> exact ⟨_, _, rfl⟩)) (by simp))
  have HSV : Hid (someV (.slice (some ⟨w1.heap.size, 0, none⟩) 2 2) [notV 108 i, lieV b p] = .iface 143 (.slice (some ⟨w1.heap.size, 0, none⟩) 2 2)) := rfl
  rw [HSV.out] at HSO
  clear hw1 hb1 rT HSV
  have hni : ∃ x, notV 108 i = .iface 59 x := ⟨_, rfl⟩
  cases b with
  | true =>
    have HI2 := hide (fun W => is_any 112 p hp W)
    have HLV : Hid (lieV true p = bitV 112 p) := rfl
    rw [HLV.out] at HFIN HSO
    have hbi : ∃ x, bitV 112 p = .iface 102 x := ⟨_, rfl⟩
    obtain ⟨nx, hnx⟩ := hni
    obtain ⟨bx, hbx⟩ := hbi
    rw [hnx] at HN1 HFIN HSO
    rw [hbx] at HI2 HFIN HSO
    clear hnx hbx HLV
    go_enter Tryz.func18, Tryz.ntmps18
    go_upto_region 2 with fail
    rw [← HW1.out]
    go_region_held3 (fun W => W.cell? ⟨w.heap.size, 0, none⟩ = some (.int .i64 (p : Int))) ((refine HKE.out _ ?_; repeat (first | exact HD.out | exact Below.refl _ _ | refine Below.alloc ?_ HD.out.size _))) ((first
      | (go_at_call 34; (with_reducible refine (HN1.out _).mono ?_); rintro e x1 ⟨rfl, hx1⟩; obtain rfl := hx1.symm)
      | (go_at_call 17; (with_reducible refine (HI2.out _).mono ?_); rintro e x1 ⟨rfl, hx1⟩; obtain rfl := hx1.symm)
      | (go_at_call 38; (with_reducible refine HSO.out.mono ?_); rintro e x2 ⟨rfl, hx2⟩; obtain rfl := hx2.symm)))
    all_goals
      go_wp2_with fail
      go_ret
      exact HFIN.out
  | false =>
    have HI2 := hide (fun W => isNot_any 112 p hp W)
    have HLV : Hid (lieV false p = notV 112 p) := rfl
    rw [HLV.out] at HFIN HSO
    have hbi : ∃ x, notV 112 p = .iface 59 x := ⟨_, rfl⟩
    obtain ⟨nx, hnx⟩ := hni
    obtain ⟨bx, hbx⟩ := hbi
    rw [hnx] at HN1 HFIN HSO
    rw [hbx] at HI2 HFIN HSO
    clear hnx hbx HLV
    go_enter Tryz.func18, Tryz.ntmps18
    go_upto_region 3 with fail
    rw [← HW1.out]
    go_region_held3 (fun W => W.cell? ⟨w.heap.size, 0, none⟩ = some (.int .i64 (p : Int))) ((refine HKE.out _ ?_; repeat (first | exact HD.out | exact Below.refl _ _ | refine Below.alloc ?_ HD.out.size _))) ((first
      | (go_at_call 34; (with_reducible refine (HN1.out _).mono ?_); rintro e x1 ⟨rfl, hx1⟩; obtain rfl := hx1.symm)
      | (go_at_call 34; (with_reducible refine (HI2.out _).mono ?_); rintro e x1 ⟨rfl, hx1⟩; obtain rfl := hx1.symm)
      | (go_at_call 38; (with_reducible refine HSO.out.mono ?_); rintro e x2 ⟨rfl, hx2⟩; obtain rfl := hx2.symm)))
    all_goals
      go_wp2_with fail
      go_ret
      exact HFIN.out
theorem three_vs (w : World) (a b c : Value) (ha : ∃ t x, a = .iface t x) (hb : ∃ t x, b = .iface t x) (hc : ∃ t x, c = .iface t x) : Vs (w.alloc (.cells #[a, b, c] 34)) (.slice (some ⟨w.heap.size, 0, none⟩) 3 3) [a, b, c] := by
  refine ⟨w.heap.size, 3, rfl, Nat.le_refl _, by simp, fun k u hu => ?_⟩
  match k, hu with
  | 0, hu => simp at hu; subst hu; exact ⟨by simp, ha⟩
  | 1, hu => simp at hu; subst hu; exact ⟨by simp, hb⟩
  | 2, hu => simp at hu; subst hu; exact ⟨by simp, hc⟩
  | k + 3, hu => simp at hu
def riseV (c : UInt8) (i : Nat) : Value := .iface 103 (nmV c i)
def fallV (c : UInt8) (i : Nat) : Value := .iface 104 (nmV c i)
theorem rise_of (ok : Nat → Prop) (w : World) (c : UInt8) (i : Nat) : IsEx ok w ⟨3, pnm c i, []⟩ (riseV c i) := by
  simp only [IsEx]
  exact ⟨trivial, by simp [pnm], rfl⟩
theorem fall_of (ok : Nat → Prop) (w : World) (c : UInt8) (i : Nat) : IsEx ok w ⟨4, pnm c i, []⟩ (fallV c i) := by
  simp only [IsEx]
  exact ⟨trivial, by simp [pnm], rfl⟩
set_option maxHeartbeats 4000000 in
set_option maxRecDepth 100000 in
theorem rests_any (i p : Nat) (b : Bool) (hi : i < 4) (hp : p < 4) (w : World) :
    Calls Tryz.prog 19 #[.int .i64 (i : Int), .int .i64 (p : Int)] w fun e w' => ∃ v, e = .returned v ∧ IsEx (fun g => w.heap.size ≤ g) w' (restsE i ((p : Int), b)) v ∧ Below w.heap.size w w' := by
  have HN1 := hide (fun W => named_any 108 i hi W)
  have HN2 := hide (fun W => named_any 112 p hp W)
  obtain ⟨w1, hw1⟩ : ∃ w1, w1 = w.alloc (.cells #[riseV 112 p, fallV 112 p] 34) := ⟨_, rfl⟩
  have hb1 : Below w.heap.size w w1 := by rw [hw1]; exact (Below.refl _ _).alloc (Nat.le_refl _) _
  have HM : Hid (IsEx (fun g => w.heap.size ≤ g) w1 ⟨7, [], [⟨3, pnm 112 p, []⟩, ⟨4, pnm 112 p, []⟩]⟩ (.iface 143 (.slice (some ⟨w.heap.size, 0, none⟩) 2 2))) := by
    refine or_of rfl (by simp) (by simp) (by simp) (Nat.le_refl _) (fun k x hx => ?_)
    rw [hw1]
    match k, hx with
    | 0, hx => simp at hx; subst hx; exact ⟨_, by simp, rise_of _ _ _ _⟩
    | 1, hx => simp at hx; subst hx; exact ⟨_, by simp, fall_of _ _ _ _⟩
    | k + 2, hx => simp at hx
  obtain ⟨nv, hnv⟩ : ∃ nv, nv = notV 108 i := ⟨_, rfl⟩
  obtain ⟨mv, hmv⟩ : ∃ mv, mv = Value.iface 59 (.agg #[.iface 143 (.slice (some ⟨w.heap.size, 0, none⟩) 2 2)]) := ⟨_, rfl⟩
  obtain ⟨w2, hw2⟩ : ∃ w2, w2 = w1.alloc (.cells #[nv, riseV 108 i, mv] 34) := ⟨_, rfl⟩
  have hb2 : Below w1.heap.size w1 w2 := by rw [hw2]; exact (Below.refl _ _).alloc (Nat.le_refl _) _
  have hb12 := hb1.trans (hb2.mono hb1.size)
  have HFIN : Hid (∃ v, (Ending.returned (Value.iface 143 (.slice (some ⟨w1.heap.size, 0, none⟩) 3 3))) = .returned v ∧ IsEx (fun g => w.heap.size ≤ g) w2 (restsE i ((p : Int), b)) v ∧ Below w.heap.size w w2) := by
    refine ⟨_, rfl, or_of rfl (by simp) (by simp) (by simp) hb1.size (fun k x hx => ?_), hb12⟩
    have hm2 : IsEx (fun g => w.heap.size ≤ g) w2 ⟨5, [], [⟨7, [], [⟨3, pnm 112 p, []⟩, ⟨4, pnm 112 p, []⟩]⟩]⟩ mv := by rw [hmv]; exact not_of (IsEx.stay (Stay.below hb2) (fun _ h => h) _ _ HM.out)
    rw [hw2] at hm2 ⊢
    match k, hx with
    | 0, hx => simp at hx; subst hx; exact ⟨nv, by simp, by rw [hnv]; exact nbit_of _ _ _ _⟩
    | 1, hx => simp at hx; subst hx; exact ⟨riseV 108 i, by simp, rise_of _ _ _ _⟩
    | 2, hx => simp at hx; subst hx; exact ⟨mv, by simp, hm2⟩
    | k + 3, hx => simp at hx
  have HS1 := hide (some_any [riseV 112 p, fallV 112 p] _ _ (two_vs w _ _ ⟨_, _, rfl⟩ ⟨_, _, rfl⟩) (by simp))
  have HS2 := hide (some_any [nv, riseV 108 i, mv] _ _ (three_vs w1 nv (riseV 108 i) mv (by rw [hnv]; exact ⟨_, _, rfl⟩) ⟨_, _, rfl⟩ (by rw [hmv]; exact ⟨_, _, rfl⟩)) (by simp))
  have HV1 : Hid (someV (.slice (some ⟨w.heap.size, 0, none⟩) 2 2) [riseV 112 p, fallV 112 p] = .iface 143 (.slice (some ⟨w.heap.size, 0, none⟩) 2 2)) := rfl
  have HV2 : Hid (someV (.slice (some ⟨w1.heap.size, 0, none⟩) 3 3) [nv, riseV 108 i, mv] = .iface 143 (.slice (some ⟨w1.heap.size, 0, none⟩) 3 3)) := rfl
  rw [HV1.out] at HS1
  rw [HV2.out] at HS2
  rw [hmv] at HS2 hw2
  rw [hnv] at HS2 hw2
  unfold notV bitV at HS2 hw2
  unfold riseV fallV at HS1
  unfold riseV at HS2 hw2
  unfold riseV fallV at hw1
  unfold nmV at HN1 HN2 HS1 HS2 hw1 hw2
  generalize (nmB 108 i).toArray = s1 at *
  generalize (nmB 112 p).toArray = s2 at *
  have HW1 := hide hw1
  have HW2 := hide hw2
  rw [← hw1] at HS1
  rw [← hw2] at HS2
  clear hb1 hb2 hb12 HM HV1 HV2 hnv hmv hw1 hw2
  go_enter Tryz.func19, Tryz.ntmps19
  go_wp2_with fail
  refine (HN1.out _).mono ?_
  rintro e x1 ⟨rfl, hx1⟩
  obtain rfl := hx1.symm
  go_wp2_with fail
  refine (HN2.out _).mono ?_
  rintro e x2 ⟨rfl, hx2⟩
  obtain rfl := hx2.symm
  go_wp2_with fail
  rw [← HW1.out]
  refine HS1.out.mono ?_
  rintro e x3 ⟨rfl, hx3⟩
  obtain rfl := hx3.symm
  go_wp2_with fail
  rw [← HW2.out]
  refine HS2.out.mono ?_
  rintro e x4 ⟨rfl, hx4⟩
  obtain rfl := hx4.symm
  go_wp2_with fail
  go_ret
  exact HFIN.out
end Ro
end
end Go.Proofs.YtgdmohombcgjbaaGreatDoor
