/-
  Plain mathematics of chapter 11: a route that is asked for is served.
-/
import Derived.Test.YtgdmohombcgjbaaGreatDoorRdKeepAll
namespace Go.Proofs.YtgdmohombcgjbaaGreatDoor
namespace Ro
open Ld (Nme Rng Prg number)
theorem all_same {α : Type} (f g : α → Bool) : ∀ (l : List α), (∀ x, x ∈ l → f x = g x) → l.all f = l.all g
  | [], _ => rfl
  | a :: l, h => by rw [List.all_cons, List.all_cons, h a (by simp), all_same f g l fun x hx => h x (by simp [hx])]
/-- what name number j is -/
def v (s : Sc.St) (j : Nat) : Bool := s.is.getD j false
theorem told_at {ns : List Nme} {l : List Bool} {s : List UInt8} {k : Nat} (h : number ns s = (k : Int)) : Sc.told ns l s = l.getD k false := by
  unfold Sc.told
  rw [h]
  simp
theorem eval_bit (is was : List UInt8 → Bool) (c : UInt8) (i : Nat) : (bitE c i).eval is was = is (pnm c i) := by simp [bitE, Ex.eval]
theorem eval_not (is was : List UInt8 → Bool) (c : UInt8) (i : Nat) : (notE c i).eval is was = !is (pnm c i) := by simp [notE, bitE, Ex.eval]
theorem eval_all (is was : List UInt8 → Bool) (l : List Ex) : (allE l).eval is was = l.all fun x => x.eval is was := by
  unfold allE
  split
  · simp
  · simp [Ex.eval, List.all_map]
theorem do3 {ns : List Nme} {was : List Bool} {s : Sc.St} {name : List UInt8} {x : Ex} {k : Nat} (h : number ns name = (k : Int)) : Sc.doRung ns was s ⟨3, name, some x⟩ = ⟨s.is.set k (v s k && !x.eval (Sc.told ns s.is) (Sc.told ns was)), s.ct⟩ := by
  unfold Sc.doRung v
  simp only
  rw [h, if_pos (by omega)]
  simp [Sc.rung]
theorem do2 {ns : List Nme} {was : List Bool} {s : Sc.St} {name : List UInt8} {x : Ex} {k : Nat} (h : number ns name = (k : Int)) : Sc.doRung ns was s ⟨2, name, some x⟩ = ⟨s.is.set k (v s k || x.eval (Sc.told ns s.is) (Sc.told ns was)), s.ct⟩ := by
  unfold Sc.doRung v
  simp only
  rw [h, if_pos (by omega)]
  simp [Sc.rung]
theorem v_set (s : Sc.St) (n : Nat) (b : Bool) (j : Nat) (h : n < s.is.length) : v ⟨s.is.set n b, s.ct⟩ j = if j = n then b else v s j := by
  unfold v
  simp only
  rw [Sc.getD_set]
  by_cases e : j = n
  · rw [if_pos ⟨e, h⟩, if_pos e]
  · rw [if_neg (fun x => e x.1), if_neg e]
/-- is what locks a route free? -/
def freeS (t : Tbl) (f : Nat → Bool) (i : Nat) : Bool := (rt t i).secs.all fun x => !f (t.rts.length + x.toNat)
theorem free_eval {t : Tbl} {S P : Nat} (f : Fits t S P) (i : Nat) (hi : i < t.rts.length) (l : List Bool) (was : List UInt8 → Bool) : ((freeE (rt t i)).all fun x => x.eval (Sc.told (namesE t.rts.length S P) l) was) = freeS t (fun j => l.getD j false) i := by
  have hS := f.S3
  have hP := f.P2
  have hR := f.R3
  unfold freeE freeS
  rw [List.all_map]
  apply all_same
  intro x hx
  have := f.secs _ (rt_in t i hi) x hx
  show (notE 98 x.toNat).eval _ _ = _
  rw [eval_not, told_at (num_b _ (by omega) _ (by omega) _ (by omega) x.toNat (by omega))]
theorem freeS_congr {t : Tbl} {S P : Nat} (f : Fits t S P) (i : Nat) (hi : i < t.rts.length) (g h : Nat → Bool) (e : ∀ j, j < t.rts.length + S → g j = h j) : freeS t g i = freeS t h i := by
  unfold freeS
  apply all_same
  intro x hx
  have := f.secs _ (rt_in t i hi) x hx
  rw [e _ (by omega)]
theorem let_fold {t : Tbl} {S P : Nat} (f : Fits t S P) (was : List Bool) (s : Sc.St) (hl : s.is.length = t.rts.length + S + t.rts.length + P) : ∀ k, k ≤ t.rts.length →
    (((List.range k).map (letE t)).foldl (Sc.doRung (namesE t.rts.length S P) was) s).is.length = s.is.length ∧
    (∀ j, (j < t.rts.length + S ∨ t.rts.length + S + k ≤ j) → v (((List.range k).map (letE t)).foldl (Sc.doRung (namesE t.rts.length S P) was) s) j = v s j) ∧
    ∀ i, i < k → v (((List.range k).map (letE t)).foldl (Sc.doRung (namesE t.rts.length S P) was) s) (t.rts.length + S + i) = (v s (t.rts.length + S + i) && !(!v s i && freeS t (v s) i))
  | 0, _ => ⟨rfl, fun _ _ => rfl, fun i hi => by omega⟩
  | k + 1, hk => by
    have hS := f.S3
    have hP := f.P2
    have hR := f.R3
    obtain ⟨h1, h2, h3⟩ := let_fold f was s hl k (by omega)
    rw [List.range_succ, List.map_append, List.foldl_append]
    generalize ((List.range k).map (letE t)).foldl (Sc.doRung (namesE t.rts.length S P) was) s = s' at *
    show (Sc.doRung _ _ s' (letE t k)).is.length = _ ∧ _
    have e : Sc.doRung (namesE t.rts.length S P) was s' (letE t k) = ⟨s'.is.set (t.rts.length + S + k) (v s' (t.rts.length + S + k) && !(!v s k && freeS t (v s) k)), s'.ct⟩ := by
      unfold letE
      rw [do3 (num_l _ (by omega) _ (by omega) _ (by omega) k (by omega)), eval_all, List.all_cons, eval_not, told_at (num_a _ (by omega) _ (by omega) _ (by omega) k (by omega)), free_eval f k (by omega)]
      have e1 : s'.is.getD k false = v s k := h2 k (by omega)
      have e2 : freeS t (fun j => s'.is.getD j false) k = freeS t (v s) k := freeS_congr f k (by omega) _ _ fun j hj => h2 j (by omega)
      rw [e1, e2]
    have hvs : ∀ j, v (Sc.doRung (namesE t.rts.length S P) was s' (letE t k)) j = if j = t.rts.length + S + k then (v s' (t.rts.length + S + k) && !(!v s k && freeS t (v s) k)) else v s' j := fun j => by
      rw [e]
      exact v_set s' _ _ j (by omega)
    refine ⟨by rw [e]; simp [h1], fun j hj => ?_, fun i hi => ?_⟩
    · show v (Sc.doRung _ _ s' (letE t k)) j = _
      rw [hvs, if_neg (by omega)]
      exact h2 j (by omega)
    · show v (Sc.doRung _ _ s' (letE t k)) _ = _
      rw [hvs]
      by_cases hik : i = k
      · rw [if_pos (by omega), hik, h2 _ (by omega)]
      · rw [if_neg (by omega)]
        exact h3 i (by omega)
/-- what locks a route -/
theorem lock_eval {t : Tbl} {S P : Nat} (f : Fits t S P) (i : Nat) (hi : i < t.rts.length) (l : List Bool) (was : List UInt8 → Bool) :
    (allE ((bitE 97 i :: freeE (rt t i)) ++ (clashing t i).map (notE 108))).eval (Sc.told (namesE t.rts.length S P) l) was = ((l.getD i false && freeS t (fun j => l.getD j false) i) && (clashing t i).all fun j => !l.getD (t.rts.length + S + j) false) := by
  have hS := f.S3
  have hP := f.P2
  have hR := f.R3
  rw [eval_all, List.all_append, List.all_cons, eval_bit, told_at (num_a _ (by omega) _ (by omega) _ (by omega) i hi), free_eval f i hi, List.all_map]
  congr 1
  apply all_same
  intro j hj
  show (notE 108 j).eval _ _ = _
  rw [eval_not, told_at (num_l _ (by omega) _ (by omega) _ (by omega) j (clashing_lt t i j hj).1)]
theorem lock_do {t : Tbl} {S P : Nat} (f : Fits t S P) (was : List Bool) (s : Sc.St) (hl : s.is.length = t.rts.length + S + t.rts.length + P) (i : Nat) (hi : i < t.rts.length) :
    (Sc.doRung (namesE t.rts.length S P) was s (lockE t i)).is.length = s.is.length ∧ ∀ j, v (Sc.doRung (namesE t.rts.length S P) was s (lockE t i)) j = if j = t.rts.length + S + i then (v s (t.rts.length + S + i) || ((v s i && freeS t (v s) i) && (clashing t i).all fun j => !v s (t.rts.length + S + j))) else v s j := by
  have hS := f.S3
  have hP := f.P2
  have hR := f.R3
  unfold lockE
  rw [do2 (num_l _ (by omega) _ (by omega) _ (by omega) i hi), lock_eval f i hi]
  refine ⟨by simp, fun j => ?_⟩
  exact v_set s _ _ j (by omega)
/-- none is asked for: none is locked -/
theorem lock_none {t : Tbl} {S P : Nat} (f : Fits t S P) (was : List Bool) (s : Sc.St) (hl : s.is.length = t.rts.length + S + t.rts.length + P) (ha : ∀ i, i < t.rts.length → v s i = false) : ∀ k, k ≤ t.rts.length →
    (((List.range k).map (lockE t)).foldl (Sc.doRung (namesE t.rts.length S P) was) s).is.length = s.is.length ∧ ∀ j, v (((List.range k).map (lockE t)).foldl (Sc.doRung (namesE t.rts.length S P) was) s) j = v s j
  | 0, _ => ⟨rfl, fun _ => rfl⟩
  | k + 1, hk => by
    obtain ⟨h1, h2⟩ := lock_none f was s hl ha k (by omega)
    rw [List.range_succ, List.map_append, List.foldl_append]
    generalize ((List.range k).map (lockE t)).foldl (Sc.doRung (namesE t.rts.length S P) was) s = s' at *
    obtain ⟨h3, h4⟩ := lock_do f was s' (by omega) k (by omega)
    refine ⟨h3.trans h1, fun j => (h4 j).trans ?_⟩
    rw [h2 k, ha k (by omega)]
    split
    · rename_i e
      rw [e, h2]
      simp
    · exact h2 j
/-- one is asked for: it is locked -/
theorem lock_one {t : Tbl} {S P : Nat} (f : Fits t S P) (was : List Bool) (s : Sc.St) (hl : s.is.length = t.rts.length + S + t.rts.length + P) (i0 : Nat) (hi0 : i0 < t.rts.length) (ha : ∀ i, i < t.rts.length → v s i = decide (i = i0)) (hb : ∀ x, x < S → v s (t.rts.length + x) = false) (hc : ∀ i, i < t.rts.length → i ≠ i0 → v s (t.rts.length + S + i) = false) : ∀ k, k ≤ t.rts.length →
    (((List.range k).map (lockE t)).foldl (Sc.doRung (namesE t.rts.length S P) was) s).is.length = s.is.length ∧ (∀ j, j ≠ t.rts.length + S + i0 → v (((List.range k).map (lockE t)).foldl (Sc.doRung (namesE t.rts.length S P) was) s) j = v s j) ∧ (i0 < k → v (((List.range k).map (lockE t)).foldl (Sc.doRung (namesE t.rts.length S P) was) s) (t.rts.length + S + i0) = true)
  | 0, _ => ⟨rfl, fun _ _ => rfl, fun h => by omega⟩
  | k + 1, hk => by
    obtain ⟨h1, h2, h3⟩ := lock_one f was s hl i0 hi0 ha hb hc k (by omega)
    rw [List.range_succ, List.map_append, List.foldl_append]
    generalize ((List.range k).map (lockE t)).foldl (Sc.doRung (namesE t.rts.length S P) was) s = s' at *
    obtain ⟨h4, h5⟩ := lock_do f was s' (by omega) k (by omega)
    have hfree : freeS t (v s') k = true := List.all_eq_true.2 fun x hx => by
      have := f.secs _ (rt_in t k (by omega)) x hx
      rw [h2 _ (by omega), hb _ (by omega)]
      rfl
    refine ⟨h4.trans h1, fun j hj => (h5 j).trans ?_, fun hk2 => (h5 _).trans ?_⟩
    · split
      · rename_i e
        have hkne : k ≠ i0 := by omega
        have hvk : v s' k = false := by rw [h2 k (by omega), ha k (by omega)]; simp [hkne]
        rw [hvk, e, h2 _ (by omega)]
        simp
      · exact h2 j hj
    · by_cases e : k = i0
      · rw [if_pos (by omega)]
        have hvk : v s' k = true := by rw [h2 k (by omega), ha k (by omega)]; simp [e]
        have hcl : ((clashing t k).all fun j => !v s' (t.rts.length + S + j)) = true := List.all_eq_true.2 fun j hj => by
          have := clashing_lt t k j hj
          rw [h2 _ (by omega), hc j this.1 (by omega)]
          rfl
        rw [hvk, hfree, hcl]
        simp
      · rw [if_neg (by omega)]
        exact h3 (by omega)
/-- the rungs that lay points leave the rest -/
theorem lay_fold {t : Tbl} {S P : Nat} (f : Fits t S P) (was : List Bool) : ∀ (rs : List Rng), (∀ r, r ∈ rs → r ∈ laysE t P) → ∀ (s : Sc.St), s.is.length = t.rts.length + S + t.rts.length + P →
    (rs.foldl (Sc.doRung (namesE t.rts.length S P) was) s).is.length = s.is.length ∧ ∀ j, j < t.rts.length + S + t.rts.length → v (rs.foldl (Sc.doRung (namesE t.rts.length S P) was) s) j = v s j
  | [], _, s, _ => ⟨rfl, fun _ _ => rfl⟩
  | r :: rs, hm, s, hl => by
    have hS := f.S3
    have hP := f.P2
    have hR := f.R3
    obtain ⟨p, b, hp, rfl⟩ := mem_lays (hm r (by simp))
    have hn := num_p t.rts.length (by omega) S (by omega) P (by omega) p hp
    have hstep : ∀ x, ∃ c, Sc.doRung (namesE t.rts.length S P) was s ⟨if b then 2 else 3, pnm 112 p, some x⟩ = ⟨s.is.set (t.rts.length + S + t.rts.length + p) c, s.ct⟩ := fun x => by
      cases b
      · exact ⟨_, do3 hn⟩
      · exact ⟨_, do2 hn⟩
    rw [List.foldl_cons]
    obtain ⟨c, hc⟩ := hstep (someE ((wanting t ((p : Int), b)).map (bitE 108)))
    rw [hc]
    obtain ⟨h1, h2⟩ := lay_fold f was rs (fun r hr => hm r (by simp [hr])) ⟨s.is.set (t.rts.length + S + t.rts.length + p) c, s.ct⟩ (by simpa using hl)
    refine ⟨by rw [h1]; simp, fun j hj => ?_⟩
    rw [h2 j hj, v_set s _ _ _ (by omega), if_neg (by omega)]
/-- one scan, of a table's program -/
theorem step_eq (t : Tbl) (S P : Nat) (s : Sc.St) (inp : List Bool) : Sc.step (ladderE t S P) s inp = (laysE t P).foldl (Sc.doRung (namesE t.rts.length S P) s.is) (((List.range t.rts.length).map (lockE t)).foldl (Sc.doRung (namesE t.rts.length S P) s.is) (((List.range t.rts.length).map (letE t)).foldl (Sc.doRung (namesE t.rts.length S P) s.is) ⟨Sc.reads (Ld.kindL (namesE t.rts.length S P) 1) inp s.is, s.ct⟩)) := by
  unfold Sc.step ladderE
  simp only
  rw [List.foldl_append, List.foldl_append]
theorem read_v {t : Tbl} {S P : Nat} (f : Fits t S P) (s : Sc.St) (hl : s.is.length = t.rts.length + S + t.rts.length + P) (inp : List Bool) (hi : inp.length = t.rts.length + S) :
    (Sc.reads (Ld.kindL (namesE t.rts.length S P) 1) inp s.is).length = s.is.length ∧ (∀ j, j < t.rts.length + S → v ⟨Sc.reads (Ld.kindL (namesE t.rts.length S P) 1) inp s.is, s.ct⟩ j = inp.getD j false) ∧ ∀ j, t.rts.length + S ≤ j → v ⟨Sc.reads (Ld.kindL (namesE t.rts.length S P) 1) inp s.is, s.ct⟩ j = v s j := by
  have hS := f.S3
  have hP := f.P2
  have hR := f.R3
  rw [kind_in _ (by omega) _ (by omega) _ (by omega)]
  refine ⟨Sc.reads_len _ _ _, fun j hj => ?_, fun j hj => ?_⟩
  · have h := Sc.reads_at (List.range (t.rts.length + S)) inp s.is List.nodup_range (by simp [hi]) (fun j hj => by have := List.mem_range.1 hj; omega) j (by simpa using hj)
    rw [List.getElem_range] at h
    exact h
  · exact Sc.reads_other _ _ _ _ (by simp; omega)
theorem step_len (t : Tbl) (S P : Nat) (s : Sc.St) (inp : List Bool) : (Sc.step (ladderE t S P) s inp).is.length = s.is.length := by
  have key : ∀ (rs : List Rng) (ns : List Nme) (was : List Bool) (s : Sc.St), (rs.foldl (Sc.doRung ns was) s).is.length = s.is.length := by
    intro rs ns was
    induction rs with
    | nil => intro s; rfl
    | cons r rs ih =>
      intro s
      rw [List.foldl_cons, ih]
      unfold Sc.doRung
      split
      · split
        · exact (Sc.rung_len _ _ _ _ _).1
        · rfl
      · rfl
  unfold Sc.step
  rw [key]
  exact Sc.reads_len _ _ _
theorem getD_rep (n j : Nat) : (List.replicate n false).getD j false = false := by
  rw [List.getD_eq_getElem?_getD, List.getElem?_replicate]
  split <;> rfl
/-- nothing is asked for, nothing is occupied: nothing is locked -/
theorem step_zero {t : Tbl} {S P : Nat} (f : Fits t S P) (s : Sc.St) (hl : s.is.length = t.rts.length + S + t.rts.length + P) (i : Nat) (hi : i < t.rts.length) : v (Sc.step (ladderE t S P) s (List.replicate (t.rts.length + S) false)) (t.rts.length + S + i) = false := by
  obtain ⟨r1, r2, r3⟩ := read_v f s hl (List.replicate (t.rts.length + S) false) (by simp)
  rw [step_eq]
  have hz : ∀ j, j < t.rts.length + S → v ⟨Sc.reads (Ld.kindL (namesE t.rts.length S P) 1) (List.replicate (t.rts.length + S) false) s.is, s.ct⟩ j = false := fun j hj => (r2 j hj).trans (getD_rep _ _)
  generalize hq : (⟨Sc.reads (Ld.kindL (namesE t.rts.length S P) 1) (List.replicate (t.rts.length + S) false) s.is, s.ct⟩ : Sc.St) = s0 at *
  have hl0 : s0.is.length = t.rts.length + S + t.rts.length + P := by rw [← hq]; exact r1.trans hl
  obtain ⟨a1, a2, a3⟩ := let_fold f s.is s0 hl0 t.rts.length (Nat.le_refl _)
  generalize ((List.range t.rts.length).map (letE t)).foldl (Sc.doRung (namesE t.rts.length S P) s.is) s0 = s1 at *
  obtain ⟨b1, b2⟩ := lock_none f s.is s1 (by omega) (fun i hi => by rw [a2 i (by omega)]; exact hz i (by omega)) t.rts.length (Nat.le_refl _)
  generalize ((List.range t.rts.length).map (lockE t)).foldl (Sc.doRung (namesE t.rts.length S P) s.is) s1 = s2 at *
  rw [(lay_fold f s.is (laysE t P) (fun _ h => h) s2 (by omega)).2 _ (by omega), b2, a3 i hi, hz i (by omega)]
  have hfree : freeS t (v s0) i = true := List.all_eq_true.2 fun x hx => by
    have := f.secs _ (rt_in t i hi) x hx
    rw [hz _ (by omega)]
    rfl
  rw [hfree]
  simp
/-- one is asked for, no other is locked: it is locked -/
theorem step_ask {t : Tbl} {S P : Nat} (f : Fits t S P) (s : Sc.St) (hl : s.is.length = t.rts.length + S + t.rts.length + P) (i0 : Nat) (hi0 : i0 < t.rts.length) (hc : ∀ i, i < t.rts.length → i ≠ i0 → v s (t.rts.length + S + i) = false) :
    v (Sc.step (ladderE t S P) s ((List.replicate (t.rts.length + S) false).set i0 true)) (t.rts.length + S + i0) = true ∧ ∀ i, i < t.rts.length → i ≠ i0 → v (Sc.step (ladderE t S P) s ((List.replicate (t.rts.length + S) false).set i0 true)) (t.rts.length + S + i) = false := by
  obtain ⟨r1, r2, r3⟩ := read_v f s hl ((List.replicate (t.rts.length + S) false).set i0 true) (by simp)
  rw [step_eq]
  have hz : ∀ j, j < t.rts.length + S → v ⟨Sc.reads (Ld.kindL (namesE t.rts.length S P) 1) ((List.replicate (t.rts.length + S) false).set i0 true) s.is, s.ct⟩ j = decide (j = i0) := fun j hj => (r2 j hj).trans (by
    rw [Sc.getD_set]
    by_cases e : j = i0
    · rw [if_pos ⟨e, by simp; omega⟩]; simp [e]
    · rw [if_neg (fun x => e x.1), getD_rep]; simp [e])
  generalize hq : (⟨Sc.reads (Ld.kindL (namesE t.rts.length S P) 1) ((List.replicate (t.rts.length + S) false).set i0 true) s.is, s.ct⟩ : Sc.St) = s0 at *
  have hl0 : s0.is.length = t.rts.length + S + t.rts.length + P := by rw [← hq]; exact r1.trans hl
  obtain ⟨a1, a2, a3⟩ := let_fold f s.is s0 hl0 t.rts.length (Nat.le_refl _)
  generalize ((List.range t.rts.length).map (letE t)).foldl (Sc.doRung (namesE t.rts.length S P) s.is) s0 = s1 at *
  have h1c : ∀ i, i < t.rts.length → i ≠ i0 → v s1 (t.rts.length + S + i) = false := fun i hi hne => by rw [a3 i hi, r3 _ (by omega), hc i hi hne]; rfl
  obtain ⟨b1, b2, b3⟩ := lock_one f s.is s1 (by omega) i0 hi0 (fun i hi => by rw [a2 i (by omega)]; exact hz i (by omega)) (fun x hx => by rw [a2 _ (by omega), hz _ (by omega)]; simp; omega) h1c t.rts.length (Nat.le_refl _)
  generalize ((List.range t.rts.length).map (lockE t)).foldl (Sc.doRung (namesE t.rts.length S P) s.is) s1 = s2 at *
  have hlay := (lay_fold f s.is (laysE t P) (fun _ h => h) s2 (by omega)).2
  refine ⟨?_, fun i hi hne => ?_⟩
  · rw [hlay _ (by omega)]
    exact b3 hi0
  · rw [hlay _ (by omega), b2 _ (by omega)]
    exact h1c i hi hne
theorem after_len (t : Tbl) (S P : Nat) (ins : List (List Bool)) : (Sc.after (ladderE t S P) ins).is.length = t.rts.length + S + t.rts.length + P := by
  have key : ∀ (ins : List (List Bool)) (s : Sc.St), s.is.length = t.rts.length + S + t.rts.length + P → (ins.foldl (Sc.step (ladderE t S P)) s).is.length = t.rts.length + S + t.rts.length + P := by
    intro ins
    induction ins with
    | nil => intro s h; exact h
    | cons a ins ih => intro s h; exact ih _ ((step_len t S P s a).trans h)
  exact key ins _ (by unfold Sc.start; simp only [List.length_replicate]; exact namesE_len _ _ _)
/-- a route that is asked for is served -/
theorem serve {t : Tbl} {S P : Nat} (f : Fits t S P) (i0 : Nat) (hi0 : i0 < t.rts.length) (ins : List (List Bool)) :
    v (Sc.after (ladderE t S P) (ins ++ [List.replicate (t.rts.length + S) false, (List.replicate (t.rts.length + S) false).set i0 true, (List.replicate (t.rts.length + S) false).set i0 true])) (t.rts.length + S + i0) = true ∧
    v (Sc.after (ladderE t S P) (ins ++ [List.replicate (t.rts.length + S) false, (List.replicate (t.rts.length + S) false).set i0 true, (List.replicate (t.rts.length + S) false).set i0 true, List.replicate (t.rts.length + S) false])) (t.rts.length + S + i0) = false := by
  have l0 := after_len t S P (ins ++ [List.replicate (t.rts.length + S) false])
  have l1 := after_len t S P (ins ++ [List.replicate (t.rts.length + S) false, (List.replicate (t.rts.length + S) false).set i0 true])
  have l2 := after_len t S P (ins ++ [List.replicate (t.rts.length + S) false, (List.replicate (t.rts.length + S) false).set i0 true, (List.replicate (t.rts.length + S) false).set i0 true])
  have e0 := Sc.after_snoc (ladderE t S P) ins (List.replicate (t.rts.length + S) false)
  have e1 := Sc.after_snoc (ladderE t S P) (ins ++ [List.replicate (t.rts.length + S) false]) ((List.replicate (t.rts.length + S) false).set i0 true)
  have e2 := Sc.after_snoc (ladderE t S P) (ins ++ [List.replicate (t.rts.length + S) false, (List.replicate (t.rts.length + S) false).set i0 true]) ((List.replicate (t.rts.length + S) false).set i0 true)
  have e3 := Sc.after_snoc (ladderE t S P) (ins ++ [List.replicate (t.rts.length + S) false, (List.replicate (t.rts.length + S) false).set i0 true, (List.replicate (t.rts.length + S) false).set i0 true]) (List.replicate (t.rts.length + S) false)
  simp only [List.append_assoc, List.cons_append, List.nil_append] at e1 e2 e3
  have z0 : ∀ i, i < t.rts.length → i ≠ i0 → v (Sc.after (ladderE t S P) (ins ++ [List.replicate (t.rts.length + S) false])) (t.rts.length + S + i) = false := fun i hi _ => by
    rw [e0]
    exact step_zero f _ (after_len t S P ins) i hi
  have z1 := step_ask f _ l0 i0 hi0 z0
  rw [← e1] at z1
  have z2 := step_ask f _ l1 i0 hi0 z1.2
  rw [← e2] at z2
  refine ⟨z2.1, ?_⟩
  rw [e3]
  exact step_zero f _ l2 i0 hi0
end Ro
end Go.Proofs.YtgdmohombcgjbaaGreatDoor
