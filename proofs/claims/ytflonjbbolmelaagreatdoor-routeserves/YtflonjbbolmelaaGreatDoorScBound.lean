/-
  Plain mathematics: along a play counts stay within their bounds, timers and counters are true just where they are there, and inputs are what came.
-/
import Derived.Test.YtflonjbbolmelaaGreatDoorNmWalkAll
import Derived.Test.YtflonjbbolmelaaGreatDoorLdBack
namespace Go.Proofs.YtflonjbbolmelaaGreatDoor
namespace Ld
theorem check_rungs (p : Prg) (h : check p = none) : ∀ r, r ∈ p.rungs → 1 ≤ r.kind ∧ r.kind ≤ 6 ∧ 0 ≤ number p.names r.name ∧ kindAt p.names (number p.names r.name) = kindOf r.kind ∧ ∃ x, r.cond = some x ∧ known p.names x = true := by
  unfold check at h
  by_cases hl : 12 < p.names.length ∨ 40 < p.rungs.length
  · rw [if_pos hl] at h; cases h
  rw [if_neg hl] at h
  cases hn : bad (nameAt p.names) p.names.length with
  | some r => rw [hn] at h; cases h
  | none =>
    rw [hn] at h
    simp only at h
    cases hr : bad (rungAt p) p.rungs.length with
    | some r => rw [hr] at h; cases h
    | none =>
      intro r hm
      obtain ⟨i, hi, rfl⟩ := List.getElem_of_mem hm
      have := bad_none _ _ hr i hi
      rw [rungAt_at _ _ hi, wrongR] at this
      by_cases h1 : p.rungs[i].kind < 1 ∨ 6 < p.rungs[i].kind
      · rw [if_pos h1] at this; cases this
      rw [if_neg h1] at this
      cases hc : p.rungs[i].cond with
      | none => rw [hc] at this; cases this
      | some x =>
        rw [hc] at this
        simp only at this
        by_cases h2 : number p.names p.rungs[i].name < 0
        · rw [if_pos h2] at this; cases this
        rw [if_neg h2] at this
        by_cases h3 : kindAt p.names (number p.names p.rungs[i].name) ≠ kindOf p.rungs[i].kind
        · rw [if_pos h3] at this; cases this
        rw [if_neg h3] at this
        by_cases h4 : known p.names x = true
        · exact ⟨by omega, by omega, by omega, Classical.not_not.1 h3, x, rfl, h4⟩
        · rw [if_neg h4] at this; cases this
theorem kindL_at (ns : List Nme) (k : Int) (i : Nat) (h : i ∈ kindL ns k) : ∃ hi : i < ns.length, ns[i].kind = k := by
  unfold kindL placesTo at h
  obtain ⟨h1, h2⟩ := List.mem_filter.1 h
  have hi := List.mem_range.1 h1
  rw [List.getElem?_eq_getElem hi] at h2
  exact ⟨hi, by simpa using h2⟩
theorem kindL_nodup (ns : List Nme) (k : Int) : (kindL ns k).Nodup := by
  unfold kindL placesTo
  exact List.nodup_range.filter _
end Ld
namespace Sc
theorem getD_set {α : Type} (l : List α) (n : Nat) (v d : α) (j : Nat) : (l.set n v).getD j d = if j = n ∧ n < l.length then v else l.getD j d := by
  rw [List.getD_eq_getElem?_getD, List.getD_eq_getElem?_getD, List.getElem?_set]
  by_cases h : n = j
  · subst h
    by_cases h2 : n < l.length
    · simp [h2]
    · simp [h2]
  · rw [if_neg h, if_neg (fun e => h e.1.symm)]
/-- a state of a program is within its bounds -/
structure Bd (p : Ld.Prg) (s : St) : Prop where
  li : s.is.length = p.names.length
  lc : s.ct.length = p.names.length
  at_ : ∀ k (h : k < p.names.length), 0 ≤ s.ct.getD k 0 ∧ s.ct.getD k 0 ≤ p.names[k].count ∧ (3 ≤ p.names[k].kind → s.is.getD k false = (s.ct.getD k 0 == p.names[k].count))
theorem may (p : Ld.Prg) (h : Ld.check p = none) (k : Nat) (hk : k < p.names.length) : 1 ≤ p.names[k].kind ∧ p.names[k].kind ≤ 4 ∧ (3 ≤ p.names[k].kind → 1 ≤ p.names[k].count ∧ p.names[k].count ≤ 7) ∧ (p.names[k].kind < 3 → p.names[k].count = 0) := by
  obtain ⟨_, h1, h2, h3⟩ := (Ld.check_names p h).2.2.1 _ (List.getElem_mem hk)
  refine ⟨h1, h2, ?_, ?_⟩
  · intro h4
    have hc : Ld.counted p.names[k].kind = true := by unfold Ld.counted; simp; omega
    unfold Ld.mayCount at h3
    rw [if_pos hc] at h3
    simpa using h3
  · intro h4
    have hc : ¬ Ld.counted p.names[k].kind = true := by unfold Ld.counted; simp; omega
    unfold Ld.mayCount at h3
    rw [if_neg hc] at h3
    simpa using h3
theorem Bd.small {p : Ld.Prg} {s : St} (hb : Bd p s) (h : Ld.check p = none) : ∀ c, c ∈ s.ct → 0 ≤ c ∧ c ≤ 7 := by
  intro c hc
  obtain ⟨i, hi, rfl⟩ := List.getElem_of_mem hc
  have hi' : i < p.names.length := by rw [← hb.lc]; exact hi
  have h1 := hb.at_ i hi'
  obtain ⟨_, _, h3, h4⟩ := may p h i hi'
  have e : s.ct.getD i 0 = s.ct[i] := by simp [hi]
  rw [e] at h1
  refine ⟨h1.1, ?_⟩
  by_cases hk : 3 ≤ p.names[i].kind
  · have := (h3 hk).2; omega
  · have := h4 (by omega); omega
theorem start_bd (p : Ld.Prg) (h : Ld.check p = none) : Bd p (start p) := by
  refine ⟨by simp [start], by simp [start], fun k hk => ?_⟩
  obtain ⟨_, _, h3, h4⟩ := may p h k hk
  have e : (start p).ct.getD k 0 = 0 := by simp [start, hk]
  have e2 : (start p).is.getD k false = false := by simp [start, hk]
  rw [e, e2]
  refine ⟨by omega, ?_, ?_⟩
  · by_cases h5 : 3 ≤ p.names[k].kind
    · have := (h3 h5).1; omega
    · have := h4 (by omega); omega
  · intro h5
    have := (h3 h5).1
    have hne : ¬ (0 : Int) = p.names[k].count := by omega
    simpa using hne
theorem rung_other (k : Int) (hk : 1 ≤ k ∧ k ≤ 6) (n : Nat) (most : Int) (says : Bool) (s : St) (j : Nat) (e : ¬ j = n) : (rung k n most says s).is.getD j false = s.is.getD j false ∧ (rung k n most says s).ct.getD j 0 = s.ct.getD j 0 := by
  have h1 : ∀ v, (s.is.set n v).getD j false = s.is.getD j false := fun v => by rw [getD_set, if_neg (fun h => e h.1)]
  have h2 : ∀ v, (s.ct.set n v).getD j 0 = s.ct.getD j 0 := fun v => by rw [getD_set, if_neg (fun h => e h.1)]
  rcases (show k = 1 ∨ k = 2 ∨ k = 3 ∨ k = 4 ∨ k = 5 ∨ k = 6 by omega) with rfl | rfl | rfl | rfl | rfl | rfl
  · exact ⟨h1 _, rfl⟩
  · exact ⟨h1 _, rfl⟩
  · exact ⟨h1 _, rfl⟩
  · exact ⟨h1 _, h2 _⟩
  · exact ⟨h1 _, h2 _⟩
  · cases says with
    | false => exact ⟨rfl, rfl⟩
    | true => exact ⟨h1 _, h2 _⟩
/-- what a rung leaves: bounds, and the inputs as they were -/
theorem rung_bd (p : Ld.Prg) (h : Ld.check p = none) (k : Int) (hk : 1 ≤ k ∧ k ≤ 6) (n : Nat) (hn : n < p.names.length) (hkn : p.names[n].kind = Ld.kindOf k) (says : Bool) (s : St) (hb : Bd p s) :
    Bd p (rung k n p.names[n].count says s) ∧ ∀ j (hj : j < p.names.length), p.names[j].kind = 1 → (rung k n p.names[n].count says s).is.getD j false = s.is.getD j false := by
  obtain ⟨l1, l2⟩ := rung_len k n p.names[n].count says s
  have hli := hb.li
  have hlc := hb.lc
  obtain ⟨_, _, h3, h4⟩ := may p h n hn
  have hcn := hb.at_ n hn
  have key : ∀ j (hj : j < p.names.length), (0 ≤ (rung k n p.names[n].count says s).ct.getD j 0 ∧ (rung k n p.names[n].count says s).ct.getD j 0 ≤ p.names[j].count ∧ (3 ≤ p.names[j].kind → (rung k n p.names[n].count says s).is.getD j false = ((rung k n p.names[n].count says s).ct.getD j 0 == p.names[j].count))) ∧ (p.names[j].kind = 1 → (rung k n p.names[n].count says s).is.getD j false = s.is.getD j false) := by
    intro j hj
    by_cases e : j = n
    · subst e
      have hni : j < s.is.length := by omega
      have hnc : j < s.ct.length := by omega
      have hf : 0 ≤ further (s.ct.getD j 0) p.names[j].count ∧ further (s.ct.getD j 0) p.names[j].count ≤ p.names[j].count := by unfold further; split <;> omega
      rcases (show k = 1 ∨ k = 2 ∨ k = 3 ∨ k = 4 ∨ k = 5 ∨ k = 6 by omega) with rfl | rfl | rfl | rfl | rfl | rfl
      · have hk2 : p.names[j].kind = 2 := hkn
        exact ⟨⟨hcn.1, hcn.2.1, fun h5 => absurd h5 (by omega)⟩, fun h5 => absurd h5 (by omega)⟩
      · have hk2 : p.names[j].kind = 2 := hkn
        exact ⟨⟨hcn.1, hcn.2.1, fun h5 => absurd h5 (by omega)⟩, fun h5 => absurd h5 (by omega)⟩
      · have hk2 : p.names[j].kind = 2 := hkn
        exact ⟨⟨hcn.1, hcn.2.1, fun h5 => absurd h5 (by omega)⟩, fun h5 => absurd h5 (by omega)⟩
      · have hk2 : p.names[j].kind = 3 := hkn
        have h6 := (h3 (by omega)).1
        refine ⟨?_, fun h5 => absurd h5 (by omega)⟩
        show 0 ≤ (run j p.names[j].count says s).ct.getD j 0 ∧ (run j p.names[j].count says s).ct.getD j 0 ≤ p.names[j].count ∧ (3 ≤ p.names[j].kind → (run j p.names[j].count says s).is.getD j false = ((run j p.names[j].count says s).ct.getD j 0 == p.names[j].count))
        unfold run
        simp only [getD_set, hni, hnc, and_self, if_true]
        refine ⟨?_, ?_, fun _ => trivial⟩
        · split <;> omega
        · split <;> omega
      · have hk2 : p.names[j].kind = 4 := hkn
        refine ⟨?_, fun h5 => absurd h5 (by omega)⟩
        show 0 ≤ (count j p.names[j].count says s).ct.getD j 0 ∧ (count j p.names[j].count says s).ct.getD j 0 ≤ p.names[j].count ∧ (3 ≤ p.names[j].kind → (count j p.names[j].count says s).is.getD j false = ((count j p.names[j].count says s).ct.getD j 0 == p.names[j].count))
        unfold count
        simp only [getD_set, hni, hnc, and_self, if_true]
        refine ⟨?_, ?_, fun _ => trivial⟩
        · split <;> omega
        · split <;> omega
      · have hk2 : p.names[j].kind = 4 := hkn
        have h6 := (h3 (by omega)).1
        refine ⟨?_, fun h5 => absurd h5 (by omega)⟩
        show 0 ≤ (zero j says s).ct.getD j 0 ∧ (zero j says s).ct.getD j 0 ≤ p.names[j].count ∧ (3 ≤ p.names[j].kind → (zero j says s).is.getD j false = ((zero j says s).ct.getD j 0 == p.names[j].count))
        unfold zero
        cases says with
        | false => exact hcn
        | true =>
          simp only [getD_set, hni, hnc, and_self, if_true]
          refine ⟨by omega, by omega, fun _ => ?_⟩
          have hne : ¬ (0 : Int) = p.names[j].count := by omega
          simpa using hne
    · obtain ⟨e1, e2⟩ := rung_other k hk n p.names[n].count says s j e
      rw [e1, e2]
      exact ⟨hb.at_ j hj, fun _ => rfl⟩
  exact ⟨⟨by omega, by omega, fun j hj => (key j hj).1⟩, fun j hj => (key j hj).2⟩
theorem doRung_bd (p : Ld.Prg) (h : Ld.check p = none) (was : List Bool) (r : Ld.Rng) (hr : r ∈ p.rungs) (s : St) (hb : Bd p s) :
    Bd p (doRung p.names was s r) ∧ ∀ j (hj : j < p.names.length), p.names[j].kind = 1 → (doRung p.names was s r).is.getD j false = s.is.getD j false := by
  obtain ⟨h1, h2, h3, h4, x, h5, _⟩ := Ld.check_rungs p h r hr
  unfold doRung
  rw [h5]
  simp only
  rw [if_pos h3]
  rcases Ld.number_cases p.names r.name with ⟨h6, _⟩ | ⟨n, hn, h6, _⟩
  · omega
  · rw [h6] at h4 ⊢
    have e1 : ((n : Int)).toNat = n := by omega
    have hk : p.names[n].kind = Ld.kindOf r.kind := by
      rw [← h4, Ld.kindAt, e1, List.getElem?_eq_getElem hn]
    have e2 : (p.names.getD n ⟨[], 0, 0⟩).count = p.names[n].count := by simp [hn]
    rw [e1, e2]
    exact rung_bd p h r.kind ⟨h1, h2⟩ n hn hk _ s hb
theorem fold_bd (p : Ld.Prg) (h : Ld.check p = none) (was : List Bool) : ∀ (rs : List Ld.Rng), (∀ r, r ∈ rs → r ∈ p.rungs) → ∀ s, Bd p s →
    Bd p (rs.foldl (doRung p.names was) s) ∧ ∀ j (hj : j < p.names.length), p.names[j].kind = 1 → (rs.foldl (doRung p.names was) s).is.getD j false = s.is.getD j false
  | [], _, s, hb => ⟨hb, fun _ _ _ => rfl⟩
  | r :: rs, hrs, s, hb => by
    obtain ⟨h1, h2⟩ := doRung_bd p h was r (hrs r (by simp)) s hb
    obtain ⟨h3, h4⟩ := fold_bd p h was rs (fun r hr => hrs r (by simp [hr])) _ h1
    exact ⟨h3, fun j hj hk => (h4 j hj hk).trans (h2 j hj hk)⟩
theorem reads_len (l : List Nat) (inp is : List Bool) : (reads l inp is).length = is.length := by
  have key : ∀ (ps : List (Nat × Bool)) (is : List Bool), (ps.foldl (fun acc p => acc.set p.1 p.2) is).length = is.length := by
    intro ps
    induction ps with
    | nil => intro is; rfl
    | cons a r ih => intro is; rw [List.foldl_cons, ih]; simp
  exact key _ _
theorem reads_other (l : List Nat) (inp is : List Bool) (j : Nat) (hj : j ∉ l) : (reads l inp is).getD j false = is.getD j false := by
  have key : ∀ (ps : List (Nat × Bool)) (is : List Bool), (∀ q, q ∈ ps → q.1 ≠ j) → (ps.foldl (fun acc p => acc.set p.1 p.2) is).getD j false = is.getD j false := by
    intro ps
    induction ps with
    | nil => intro is _; rfl
    | cons a r ih =>
      intro is hq
      rw [List.foldl_cons, ih _ (fun q hq2 => hq q (by simp [hq2])), getD_set, if_neg]
      intro e
      exact hq a (by simp) e.1.symm
  exact key _ _ (fun q hq e => hj (by rw [← e]; exact (List.of_mem_zip hq).1))
theorem reads_at : ∀ (l : List Nat) (inp is : List Bool), l.Nodup → inp.length = l.length → (∀ j, j ∈ l → j < is.length) → ∀ k (hk : k < l.length), (reads l inp is).getD l[k] false = inp.getD k false
  | [], _, _, _, _, _, k, hk => by simp at hk
  | a :: l, [], _, _, hl, _, _, _ => by simp at hl
  | a :: l, b :: inp, is, hnd, hl, hlt, k, hk => by
    have e : reads (a :: l) (b :: inp) is = reads l inp (is.set a b) := rfl
    rw [e]
    have hnd' := List.nodup_cons.1 hnd
    cases k with
    | zero =>
      show (reads l inp (is.set a b)).getD a false = b
      rw [reads_other l inp _ a hnd'.1, getD_set, if_pos ⟨rfl, hlt a (by simp)⟩]
    | succ k =>
      have := reads_at l inp (is.set a b) hnd'.2 (by simpa using hl) (fun j hj => by rw [List.length_set]; exact hlt j (by simp [hj])) k (by simpa using hk)
      simpa using this
theorem step_bd (p : Ld.Prg) (h : Ld.check p = none) (s : St) (inp : List Bool) (hb : Bd p s) (hl : inp.length = (Ld.kindL p.names 1).length) :
    Bd p (step p s inp) ∧ ∀ k (hk : k < (Ld.kindL p.names 1).length), (step p s inp).is.getD (Ld.kindL p.names 1)[k] false = inp.getD k false := by
  have hb0 : Bd p ⟨reads (Ld.kindL p.names 1) inp s.is, s.ct⟩ := by
    refine ⟨by simp only [reads_len]; exact hb.li, hb.lc, fun k hk => ?_⟩
    obtain ⟨h1, h2, h3⟩ := hb.at_ k hk
    refine ⟨h1, h2, fun h4 => ?_⟩
    simp only
    rw [reads_other _ _ _ _ (fun hm => by obtain ⟨hi, he⟩ := Ld.kindL_at _ _ _ hm; omega)]
    exact h3 h4
  obtain ⟨h1, h2⟩ := fold_bd p h s.is p.rungs (fun _ hr => hr) _ hb0
  refine ⟨h1, fun k hk => ?_⟩
  obtain ⟨hi, he⟩ := Ld.kindL_at _ _ _ (List.getElem_mem hk)
  refine (h2 _ hi he).trans ?_
  exact reads_at _ _ _ (Ld.kindL_nodup _ _) hl (fun j hj => by obtain ⟨hi, _⟩ := Ld.kindL_at _ _ _ hj; rw [hb.li]; exact hi) k hk
/-- the state behind some scans -/
def after (p : Ld.Prg) (ins : List (List Bool)) : St := ins.foldl (step p) (start p)
theorem after_bd (p : Ld.Prg) (h : Ld.check p = none) (ins : List (List Bool)) (hl : ∀ i, i ∈ ins → i.length = (Ld.kindL p.names 1).length) : Bd p (after p ins) := by
  have key : ∀ (ins : List (List Bool)) (s : St), Bd p s → (∀ i, i ∈ ins → i.length = (Ld.kindL p.names 1).length) → Bd p (ins.foldl (step p) s) := by
    intro ins
    induction ins with
    | nil => intro s hb _; exact hb
    | cons a r ih => intro s hb hl; exact ih _ (step_bd p h s a hb (hl a (by simp))).1 (fun i hi => hl i (by simp [hi]))
  exact key ins _ (start_bd p h) hl
theorem after_snoc (p : Ld.Prg) (ins : List (List Bool)) (a : List Bool) : after p (ins ++ [a]) = step p (after p ins) a := by
  unfold after; rw [List.foldl_append]; rfl
/-- the states behind each of the first k scans -/
def plays (p : Ld.Prg) (ins : List (List Bool)) (k : Nat) : List St := (List.range k).map fun j => after p (ins.take (j + 1))
theorem plays_succ (p : Ld.Prg) (ins : List (List Bool)) (k : Nat) (hk : k < ins.length) : plays p ins (k + 1) = plays p ins k ++ [step p (after p (ins.take k)) ins[k]] := by
  unfold plays
  rw [List.range_succ, List.map_append, List.map_singleton, List.take_succ_eq_append_getElem hk, after_snoc]
theorem plays_len (p : Ld.Prg) (ins : List (List Bool)) (k : Nat) : (plays p ins k).length = k := by simp [plays]
end Sc
end Go.Proofs.YtflonjbbolmelaaGreatDoor
