/-
  Plain mathematics: along a play counts stay within their bounds, timers and counters are true just where they are there, and inputs are what came. Plain mathematics of chapter 12: a program that is made tidy may be, and does the same, scan by scan. Nothing of the program is named here. Plain facts: what a program that was read asks was read; how much is numbered where an expression that was read is made tidy. Plain mathematics of the document's own making tidy: part by part, as it is written there.
-/
import Derived.Test.YtjfgfcajmkbmeaaGreatDoorScMathAll
import Derived.Test.YtjfgfcajmkbmeaaGreatDoorSpSeqAll
import Derived.Test.YtjfgfcajmkbmeaaGreatDoorRtBoundAll
namespace Go.Proofs.YtjfgfcajmkbmeaaGreatDoor
section
namespace Ld
theorem check_rungs (p : Prg) (h : check p = none) : ∀ r, r ∈ p.rungs → 1 ≤ r.kind ∧ r.kind ≤ 6 ∧ 0 ≤ number p.names r.name ∧ kindAt p.names (number p.names r.name) = kindOf r.kind ∧ ∃ x, r.cond = some x ∧ known p.names x = true := by
  unfold check at h
  by_cases hl : 12 < p.names.length ∨ 40 < p.rungs.length
  · rw [if_pos hl] at h; cases h
  rw [if_neg hl] at h
  cases hn : bad (nameAt p.names) p.names.length with
  | some r => rw [hn] at h; cases h
  | none =>
    rw [hn] at h
    simp only at h
    cases hr : bad (rungAt p) p.rungs.length with
    | some r => rw [hr] at h; cases h
    | none =>
      intro r hm
      obtain ⟨i, hi, rfl⟩ := List.getElem_of_mem hm
      have := bad_none _ _ hr i hi
      rw [rungAt_at _ _ hi, wrongR] at this
      by_cases h1 : p.rungs[i].kind < 1 ∨ 6 < p.rungs[i].kind
      · rw [if_pos h1] at this; cases this
      rw [if_neg h1] at this
      cases hc : p.rungs[i].cond with
      | none => rw [hc] at this; cases this
      | some x =>
        rw [hc] at this
        simp only at this
        by_cases h2 : number p.names p.rungs[i].name < 0
        · rw [if_pos h2] at this; cases this
        rw [if_neg h2] at this
        by_cases h3 : kindAt p.names (number p.names p.rungs[i].name) ≠ kindOf p.rungs[i].kind
        · rw [if_pos h3] at this; cases this
        rw [if_neg h3] at this
        by_cases h4 : known p.names x = true
        · exact ⟨by omega, by omega, by omega, Classical.not_not.1 h3, x, rfl, h4⟩
        · rw [if_neg h4] at this; cases this
theorem kindL_at (ns : List Nme) (k : Int) (i : Nat) (h : i ∈ kindL ns k) : ∃ hi : i < ns.length, ns[i].kind = k := by
  unfold kindL placesTo at h
  obtain ⟨h1, h2⟩ := List.mem_filter.1 h
  have hi := List.mem_range.1 h1
  rw [List.getElem?_eq_getElem hi] at h2
  exact ⟨hi, by simpa using h2⟩
theorem kindL_nodup (ns : List Nme) (k : Int) : (kindL ns k).Nodup := by
  unfold kindL placesTo
  exact List.nodup_range.filter _
end Ld
namespace Sc
theorem getD_set {α : Type} (l : List α) (n : Nat) (v d : α) (j : Nat) : (l.set n v).getD j d = if j = n ∧ n < l.length then v else l.getD j d := by
  rw [List.getD_eq_getElem?_getD, List.getD_eq_getElem?_getD, List.getElem?_set]
  by_cases h : n = j
  · subst h
    by_cases h2 : n < l.length
    · simp [h2]
    · simp [h2]
  · rw [if_neg h, if_neg (fun e => h e.1.symm)]
/-- a state of a program is within its bounds -/
structure Bd (p : Ld.Prg) (s : St) : Prop where
  li : s.is.length = p.names.length
  lc : s.ct.length = p.names.length
  at_ : ∀ k (h : k < p.names.length), 0 ≤ s.ct.getD k 0 ∧ s.ct.getD k 0 ≤ p.names[k].count ∧ (3 ≤ p.names[k].kind → s.is.getD k false = (s.ct.getD k 0 == p.names[k].count))
theorem may (p : Ld.Prg) (h : Ld.check p = none) (k : Nat) (hk : k < p.names.length) : 1 ≤ p.names[k].kind ∧ p.names[k].kind ≤ 4 ∧ (3 ≤ p.names[k].kind → 1 ≤ p.names[k].count ∧ p.names[k].count ≤ 7) ∧ (p.names[k].kind < 3 → p.names[k].count = 0) := by
  obtain ⟨_, h1, h2, h3⟩ := (Ld.check_names p h).2.2.1 _ (List.getElem_mem hk)
  refine ⟨h1, h2, ?_, ?_⟩
  · intro h4
    have hc : Ld.counted p.names[k].kind = true := by unfold Ld.counted; simp; omega
    unfold Ld.mayCount at h3
    rw [if_pos hc] at h3
    simpa using h3
  · intro h4
    have hc : ¬ Ld.counted p.names[k].kind = true := by unfold Ld.counted; simp; omega
    unfold Ld.mayCount at h3
    rw [if_neg hc] at h3
    simpa using h3
theorem Bd.small {p : Ld.Prg} {s : St} (hb : Bd p s) (h : Ld.check p = none) : ∀ c, c ∈ s.ct → 0 ≤ c ∧ c ≤ 7 := by
  intro c hc
  obtain ⟨i, hi, rfl⟩ := List.getElem_of_mem hc
  have hi' : i < p.names.length := by rw [← hb.lc]; exact hi
  have h1 := hb.at_ i hi'
  obtain ⟨_, _, h3, h4⟩ := may p h i hi'
  have e : s.ct.getD i 0 = s.ct[i] := by simp [hi]
  rw [e] at h1
  refine ⟨h1.1, ?_⟩
  by_cases hk : 3 ≤ p.names[i].kind
  · have := (h3 hk).2; omega
  · have := h4 (by omega); omega
theorem start_bd (p : Ld.Prg) (h : Ld.check p = none) : Bd p (start p) := by
  refine ⟨by simp [start], by simp [start], fun k hk => ?_⟩
  obtain ⟨_, _, h3, h4⟩ := may p h k hk
  have e : (start p).ct.getD k 0 = 0 := by simp [start, hk]
  have e2 : (start p).is.getD k false = false := by simp [start, hk]
  rw [e, e2]
  refine ⟨by omega, ?_, ?_⟩
  · by_cases h5 : 3 ≤ p.names[k].kind
    · have := (h3 h5).1; omega
    · have := h4 (by omega); omega
  · intro h5
    have := (h3 h5).1
    have hne : ¬ (0 : Int) = p.names[k].count := by omega
    simpa using hne
theorem rung_other (k : Int) (hk : 1 ≤ k ∧ k ≤ 6) (n : Nat) (most : Int) (says : Bool) (s : St) (j : Nat) (e : ¬ j = n) : (rung k n most says s).is.getD j false = s.is.getD j false ∧ (rung k n most says s).ct.getD j 0 = s.ct.getD j 0 := by
  have h1 : ∀ v, (s.is.set n v).getD j false = s.is.getD j false := fun v => by rw [getD_set, if_neg (fun h => e h.1)]
  have h2 : ∀ v, (s.ct.set n v).getD j 0 = s.ct.getD j 0 := fun v => by rw [getD_set, if_neg (fun h => e h.1)]
  rcases (show k = 1 ∨ k = 2 ∨ k = 3 ∨ k = 4 ∨ k = 5 ∨ k = 6 by omega) with rfl | rfl | rfl | rfl | rfl | rfl
  · exact ⟨h1 _, rfl⟩
  · exact ⟨h1 _, rfl⟩
  · exact ⟨h1 _, rfl⟩
  · exact ⟨h1 _, h2 _⟩
  · exact ⟨h1 _, h2 _⟩
  · cases says with
    | false => exact ⟨rfl, rfl⟩
    | true => exact ⟨h1 _, h2 _⟩
/-- what a rung leaves: bounds, and the inputs as they were -/
theorem rung_bd (p : Ld.Prg) (h : Ld.check p = none) (k : Int) (hk : 1 ≤ k ∧ k ≤ 6) (n : Nat) (hn : n < p.names.length) (hkn : p.names[n].kind = Ld.kindOf k) (says : Bool) (s : St) (hb : Bd p s) :
    Bd p (rung k n p.names[n].count says s) ∧ ∀ j (hj : j < p.names.length), p.names[j].kind = 1 → (rung k n p.names[n].count says s).is.getD j false = s.is.getD j false := by
  obtain ⟨l1, l2⟩ := rung_len k n p.names[n].count says s
  have hli := hb.li
  have hlc := hb.lc
  obtain ⟨_, _, h3, h4⟩ := may p h n hn
  have hcn := hb.at_ n hn
  have key : ∀ j (hj : j < p.names.length), (0 ≤ (rung k n p.names[n].count says s).ct.getD j 0 ∧ (rung k n p.names[n].count says s).ct.getD j 0 ≤ p.names[j].count ∧ (3 ≤ p.names[j].kind → (rung k n p.names[n].count says s).is.getD j false = ((rung k n p.names[n].count says s).ct.getD j 0 == p.names[j].count))) ∧ (p.names[j].kind = 1 → (rung k n p.names[n].count says s).is.getD j false = s.is.getD j false) := by
    intro j hj
    by_cases e : j = n
    · subst e
      have hni : j < s.is.length := by omega
      have hnc : j < s.ct.length := by omega
      have hf : 0 ≤ further (s.ct.getD j 0) p.names[j].count ∧ further (s.ct.getD j 0) p.names[j].count ≤ p.names[j].count := by unfold further; split <;> omega
      rcases (show k = 1 ∨ k = 2 ∨ k = 3 ∨ k = 4 ∨ k = 5 ∨ k = 6 by omega) with rfl | rfl | rfl | rfl | rfl | rfl
      · have hk2 : p.names[j].kind = 2 := hkn
        exact ⟨⟨hcn.1, hcn.2.1, fun h5 => absurd h5 (by omega)⟩, fun h5 => absurd h5 (by omega)⟩
      · have hk2 : p.names[j].kind = 2 := hkn
        exact ⟨⟨hcn.1, hcn.2.1, fun h5 => absurd h5 (by omega)⟩, fun h5 => absurd h5 (by omega)⟩
      · have hk2 : p.names[j].kind = 2 := hkn
        exact ⟨⟨hcn.1, hcn.2.1, fun h5 => absurd h5 (by omega)⟩, fun h5 => absurd h5 (by omega)⟩
      · have hk2 : p.names[j].kind = 3 := hkn
        have h6 := (h3 (by omega)).1
        refine ⟨?_, fun h5 => absurd h5 (by omega)⟩
        show 0 ≤ (run j p.names[j].count says s).ct.getD j 0 ∧ (run j p.names[j].count says s).ct.getD j 0 ≤ p.names[j].count ∧ (3 ≤ p.names[j].kind → (run j p.names[j].count says s).is.getD j false = ((run j p.names[j].count says s).ct.getD j 0 == p.names[j].count))
        unfold run
        simp only [getD_set, hni, hnc, and_self, if_true]
        refine ⟨?_, ?_, fun _ => trivial⟩
        · split <;> omega
        · split <;> omega
      · have hk2 : p.names[j].kind = 4 := hkn
        refine ⟨?_, fun h5 => absurd h5 (by omega)⟩
        show 0 ≤ (count j p.names[j].count says s).ct.getD j 0 ∧ (count j p.names[j].count says s).ct.getD j 0 ≤ p.names[j].count ∧ (3 ≤ p.names[j].kind → (count j p.names[j].count says s).is.getD j false = ((count j p.names[j].count says s).ct.getD j 0 == p.names[j].count))
        unfold count
        simp only [getD_set, hni, hnc, and_self, if_true]
        refine ⟨?_, ?_, fun _ => trivial⟩
        · split <;> omega
        · split <;> omega
      · have hk2 : p.names[j].kind = 4 := hkn
        have h6 := (h3 (by omega)).1
        refine ⟨?_, fun h5 => absurd h5 (by omega)⟩
        show 0 ≤ (zero j says s).ct.getD j 0 ∧ (zero j says s).ct.getD j 0 ≤ p.names[j].count ∧ (3 ≤ p.names[j].kind → (zero j says s).is.getD j false = ((zero j says s).ct.getD j 0 == p.names[j].count))
        unfold zero
        cases says with
        | false => exact hcn
        | true =>
          simp only [getD_set, hni, hnc, and_self, if_true]
          refine ⟨by omega, by omega, fun _ => ?_⟩
          have hne : ¬ (0 : Int) = p.names[j].count := by omega
          simpa using hne
    · obtain ⟨e1, e2⟩ := rung_other k hk n p.names[n].count says s j e
      rw [e1, e2]
      exact ⟨hb.at_ j hj, fun _ => rfl⟩
  exact ⟨⟨by omega, by omega, fun j hj => (key j hj).1⟩, fun j hj => (key j hj).2⟩
theorem doRung_bd (p : Ld.Prg) (h : Ld.check p = none) (was : List Bool) (r : Ld.Rng) (hr : r ∈ p.rungs) (s : St) (hb : Bd p s) :
    Bd p (doRung p.names was s r) ∧ ∀ j (hj : j < p.names.length), p.names[j].kind = 1 → (doRung p.names was s r).is.getD j false = s.is.getD j false := by
  obtain ⟨h1, h2, h3, h4, x, h5, _⟩ := Ld.check_rungs p h r hr
  unfold doRung
  rw [h5]
  simp only
  rw [if_pos h3]
  rcases Ld.number_cases p.names r.name with ⟨h6, _⟩ | ⟨n, hn, h6, _⟩
  · omega
  · rw [h6] at h4 ⊢
    have e1 : ((n : Int)).toNat = n := by omega
    have hk : p.names[n].kind = Ld.kindOf r.kind := by
      rw [← h4, Ld.kindAt, e1, List.getElem?_eq_getElem hn]
    have e2 : (p.names.getD n ⟨[], 0, 0⟩).count = p.names[n].count := by simp [hn]
    rw [e1, e2]
    exact rung_bd p h r.kind ⟨h1, h2⟩ n hn hk _ s hb
theorem fold_bd (p : Ld.Prg) (h : Ld.check p = none) (was : List Bool) : ∀ (rs : List Ld.Rng), (∀ r, r ∈ rs → r ∈ p.rungs) → ∀ s, Bd p s →
    Bd p (rs.foldl (doRung p.names was) s) ∧ ∀ j (hj : j < p.names.length), p.names[j].kind = 1 → (rs.foldl (doRung p.names was) s).is.getD j false = s.is.getD j false
  | [], _, s, hb => ⟨hb, fun _ _ _ => rfl⟩
  | r :: rs, hrs, s, hb => by
    obtain ⟨h1, h2⟩ := doRung_bd p h was r (hrs r (by simp)) s hb
    obtain ⟨h3, h4⟩ := fold_bd p h was rs (fun r hr => hrs r (by simp [hr])) _ h1
    exact ⟨h3, fun j hj hk => (h4 j hj hk).trans (h2 j hj hk)⟩
theorem reads_len (l : List Nat) (inp is : List Bool) : (reads l inp is).length = is.length := by
  have key : ∀ (ps : List (Nat × Bool)) (is : List Bool), (ps.foldl (fun acc p => acc.set p.1 p.2) is).length = is.length := by
    intro ps
    induction ps with
    | nil => intro is; rfl
    | cons a r ih => intro is; rw [List.foldl_cons, ih]; simp
  exact key _ _
theorem reads_other (l : List Nat) (inp is : List Bool) (j : Nat) (hj : j ∉ l) : (reads l inp is).getD j false = is.getD j false := by
  have key : ∀ (ps : List (Nat × Bool)) (is : List Bool), (∀ q, q ∈ ps → q.1 ≠ j) → (ps.foldl (fun acc p => acc.set p.1 p.2) is).getD j false = is.getD j false := by
    intro ps
    induction ps with
    | nil => intro is _; rfl
    | cons a r ih =>
      intro is hq
      rw [List.foldl_cons, ih _ (fun q hq2 => hq q (by simp [hq2])), getD_set, if_neg]
      intro e
      exact hq a (by simp) e.1.symm
  exact key _ _ (fun q hq e => hj (by rw [← e]; exact (List.of_mem_zip hq).1))
theorem reads_at : ∀ (l : List Nat) (inp is : List Bool), l.Nodup → inp.length = l.length → (∀ j, j ∈ l → j < is.length) → ∀ k (hk : k < l.length), (reads l inp is).getD l[k] false = inp.getD k false
  | [], _, _, _, _, _, k, hk => by simp at hk
  | a :: l, [], _, _, hl, _, _, _ => by simp at hl
  | a :: l, b :: inp, is, hnd, hl, hlt, k, hk => by
    have e : reads (a :: l) (b :: inp) is = reads l inp (is.set a b) := rfl
    rw [e]
    have hnd' := List.nodup_cons.1 hnd
    cases k with
    | zero =>
      show (reads l inp (is.set a b)).getD a false = b
      rw [reads_other l inp _ a hnd'.1, getD_set, if_pos ⟨rfl, hlt a (by simp)⟩]
    | succ k =>
      have := reads_at l inp (is.set a b) hnd'.2 (by simpa using hl) (fun j hj => by rw [List.length_set]; exact hlt j (by simp [hj])) k (by simpa using hk)
      simpa using this
theorem step_bd (p : Ld.Prg) (h : Ld.check p = none) (s : St) (inp : List Bool) (hb : Bd p s) (hl : inp.length = (Ld.kindL p.names 1).length) :
    Bd p (step p s inp) ∧ ∀ k (hk : k < (Ld.kindL p.names 1).length), (step p s inp).is.getD (Ld.kindL p.names 1)[k] false = inp.getD k false := by
  have hb0 : Bd p ⟨reads (Ld.kindL p.names 1) inp s.is, s.ct⟩ := by
    refine ⟨by simp only [reads_len]; exact hb.li, hb.lc, fun k hk => ?_⟩
    obtain ⟨h1, h2, h3⟩ := hb.at_ k hk
    refine ⟨h1, h2, fun h4 => ?_⟩
    simp only
    rw [reads_other _ _ _ _ (fun hm => by obtain ⟨hi, he⟩ := Ld.kindL_at _ _ _ hm; omega)]
    exact h3 h4
  obtain ⟨h1, h2⟩ := fold_bd p h s.is p.rungs (fun _ hr => hr) _ hb0
  refine ⟨h1, fun k hk => ?_⟩
  obtain ⟨hi, he⟩ := Ld.kindL_at _ _ _ (List.getElem_mem hk)
  refine (h2 _ hi he).trans ?_
  exact reads_at _ _ _ (Ld.kindL_nodup _ _) hl (fun j hj => by obtain ⟨hi, _⟩ := Ld.kindL_at _ _ _ hj; rw [hb.li]; exact hi) k hk
/-- the state behind some scans -/
def after (p : Ld.Prg) (ins : List (List Bool)) : St := ins.foldl (step p) (start p)
theorem after_bd (p : Ld.Prg) (h : Ld.check p = none) (ins : List (List Bool)) (hl : ∀ i, i ∈ ins → i.length = (Ld.kindL p.names 1).length) : Bd p (after p ins) := by
  have key : ∀ (ins : List (List Bool)) (s : St), Bd p s → (∀ i, i ∈ ins → i.length = (Ld.kindL p.names 1).length) → Bd p (ins.foldl (step p) s) := by
    intro ins
    induction ins with
    | nil => intro s hb _; exact hb
    | cons a r ih => intro s hb hl; exact ih _ (step_bd p h s a hb (hl a (by simp))).1 (fun i hi => hl i (by simp [hi]))
  exact key ins _ (start_bd p h) hl
theorem after_snoc (p : Ld.Prg) (ins : List (List Bool)) (a : List Bool) : after p (ins ++ [a]) = step p (after p ins) a := by
  unfold after; rw [List.foldl_append]; rfl
/-- the states behind each of the first k scans -/
def plays (p : Ld.Prg) (ins : List (List Bool)) (k : Nat) : List St := (List.range k).map fun j => after p (ins.take (j + 1))
theorem plays_succ (p : Ld.Prg) (ins : List (List Bool)) (k : Nat) (hk : k < ins.length) : plays p ins (k + 1) = plays p ins k ++ [step p (after p (ins.take k)) ins[k]] := by
  unfold plays
  rw [List.range_succ, List.map_append, List.map_singleton, List.take_succ_eq_append_getElem hk, after_snoc]
theorem plays_len (p : Ld.Prg) (ins : List (List Bool)) (k : Nat) : (plays p ins k).length = k := by simp [plays]
end Sc
end
section
namespace Ex
theorem named_mem (k : Nat) (n : List UInt8) (l : List Ex) (y : Ex) (hk : k ≠ 2 ∧ k ≠ 3 ∧ k ≠ 4) (hy : y ∈ l) (s : List UInt8) (h : s ∈ y.named true) : s ∈ named true ⟨k, n, l⟩ := by
  rw [named_of _ _ _ _ hk, List.mem_flatten]
  exact ⟨_, List.mem_map_of_mem hy, h⟩
theorem named_inv (k : Nat) (n : List UInt8) (l : List Ex) (hk : k ≠ 2 ∧ k ≠ 3 ∧ k ≠ 4) (s : List UInt8) (h : s ∈ named true ⟨k, n, l⟩) : ∃ y, y ∈ l ∧ s ∈ y.named true := by
  rw [named_of _ _ _ _ hk, List.mem_flatten] at h
  obtain ⟨L, h1, h2⟩ := h
  obtain ⟨y, hy, rfl⟩ := List.mem_map.1 h1
  exact ⟨y, hy, h2⟩
theorem named_other (x : Ex) (s : List UInt8) (h : s ∈ (other x).named true) : s ∈ x.named true := by
  obtain ⟨k, n, l⟩ := x
  unfold other at h
  by_cases h5 : k = 5
  · subst h5
    simp only [if_true] at h
    cases l with
    | nil => exact h
    | cons a r => exact named_mem 5 n (a :: r) a (by decide) (by simp) s h
  · rw [if_neg h5] at h
    obtain ⟨y, hy, h2⟩ := named_inv 5 [] _ (by decide) s h
    have : y = ⟨k, n, l⟩ := by simpa using hy
    rw [this] at h2
    exact h2
theorem named_notT (t : Ex) (s : List UInt8) (h : s ∈ (notT t).named true) : s ∈ t.named true := by
  unfold notT at h
  split at h
  · obtain ⟨y, hy, _⟩ := named_inv 1 [] [] (by decide) s h
    cases hy
  · split at h
    · obtain ⟨y, hy, _⟩ := named_inv 0 [] [] (by decide) s h
      cases hy
    · exact named_other t s h
theorem named_pieces (k : Nat) (hk : 5 ≤ k) (t y : Ex) (hy : y ∈ pieces k t) (s : List UInt8) (h : s ∈ y.named true) : s ∈ t.named true := by
  obtain ⟨j, n, l⟩ := t
  unfold pieces at hy
  by_cases e : j = k
  · subst e
    simp only [if_true] at hy
    exact named_mem j n l y ⟨by omega, by omega, by omega⟩ hy s h
  · rw [if_neg e] at hy
    have : y = ⟨j, n, l⟩ := by simpa using hy
    rw [← this]
    exact h
theorem named_gather (k : Nat) (hk : 5 ≤ k) (L : List Ex) (s : List UInt8) (h : s ∈ (gather k L).named true) : ∃ y, y ∈ L ∧ s ∈ y.named true := by
  by_cases hd : dec k L
  · rw [gather_dec k L hd] at h
    have h1 := allK_le k
    obtain ⟨y, hy, _⟩ := named_inv (allK k) [] [] ⟨by omega, by omega, by omega⟩ s h
    cases hy
  · rw [gather_not k L hd] at h
    have hsub : ∀ y, y ∈ addAll [] (nc L) → y ∈ L := fun y hy => by
      rcases (mem_addAll y (nc L) []).1 hy with h1 | h1
      · cases h1
      · exact ((mem_nc y L).1 h1).1
    match hL : addAll [] (nc L), h with
    | [], h =>
      have h1 := noneK_le k
      obtain ⟨y, hy, _⟩ := named_inv (noneK k) [] [] ⟨by omega, by omega, by omega⟩ s h
      cases hy
    | [p], h => exact ⟨p, hsub p (by rw [hL]; simp), h⟩
    | p :: q :: r, h =>
      obtain ⟨y, hy, h2⟩ := named_inv k [] (p :: q :: r) ⟨by omega, by omega, by omega⟩ s h
      exact ⟨y, hsub y (by rw [hL]; exact hy), h2⟩
theorem named_tidy (x : Ex) : Wf x → ∀ s, s ∈ x.tidy.named true → s ∈ x.named true := by
  induction x using Ex.ind with
  | h k nm l ih =>
    intro h s hs1
    rw [Wf.def] at h
    obtain ⟨hs, hl⟩ := h
    have hg : ∀ k, 6 ≤ k → s ∈ (gather k (l.map fun x => pieces k x.tidy).flatten).named true → s ∈ named true ⟨k, nm, l⟩ := by
      intro k hk h
      obtain ⟨y, hy, h2⟩ := named_gather k (by omega) _ s h
      obtain ⟨L, h3, h4⟩ := List.mem_flatten.1 hy
      obtain ⟨z, hz, rfl⟩ := List.mem_map.1 h3
      exact named_mem k nm l z ⟨by omega, by omega, by omega⟩ hz s (ih z hz (hl z hz) s (named_pieces k (by omega) _ y h4 s h2))
    rcases hs with ⟨h1, h2, h3⟩ | ⟨h1, h2, h3, h4⟩ | ⟨rfl, rfl, h3⟩ | ⟨h1, h2, rfl, h4⟩
    · rw [tidy_leaf k (by omega)] at hs1; exact hs1
    · rw [tidy_leaf k h2] at hs1; exact hs1
    · match l, h3, ih, hl, hs1 with
      | [y], _, ih, hl, hs1 =>
        rw [tidy5] at hs1
        exact named_mem 5 [] [y] y (by decide) (by simp) s (ih y (by simp) (hl y (by simp)) s (named_notT _ s hs1))
    · by_cases h6 : k = 6
      · subst h6; rw [tidy6] at hs1; exact hg 6 (by omega) hs1
      · have h7 : k = 7 := by omega
        subst h7; rw [tidy7] at hs1; exact hg 7 (by omega) hs1
end Ex
namespace Sl
/-- a rung, made tidy -/
def tidyR (r : Ld.Rng) : Ld.Rng := ⟨r.kind, r.name, r.cond.map Ex.tidy⟩
/-- does a rung of such a kind do nothing where its expression is 0? -/
def idleK (k : Int) : Bool := k == 2 || k == 3 || k == 5 || k == 6
def idle (r : Ld.Rng) : Bool := idleK r.kind && (match r.cond with | some x => x.kind == 0 | none => false)
def tidy (p : Ld.Prg) : Ld.Prg := ⟨p.names, (p.rungs.map tidyR).filter fun r => !idle r⟩
/-- all expressions have their form -/
def WfP (p : Ld.Prg) : Prop := ∀ r, r ∈ p.rungs → ∀ x, r.cond = some x → x.Wf
theorem tidy_rung (p : Ld.Prg) (r : Ld.Rng) (h : r ∈ (tidy p).rungs) : ∃ r', r' ∈ p.rungs ∧ r = tidyR r' ∧ idle (tidyR r') = false := by
  unfold tidy at h
  obtain ⟨h1, h2⟩ := List.mem_filter.1 h
  obtain ⟨r', h3, rfl⟩ := List.mem_map.1 h1
  exact ⟨r', h3, rfl, by simpa using h2⟩
theorem tidy_fewer (p : Ld.Prg) : (tidy p).rungs.length ≤ p.rungs.length := by
  unfold tidy
  refine Nat.le_trans (List.length_filter_le _ _) ?_
  simp
theorem wrong_tidy (p : Ld.Prg) (hw : WfP p) (r : Ld.Rng) (hr : r ∈ p.rungs) (h : Ld.wrongR p.names r = 0) : Ld.wrongR p.names (tidyR r) = 0 := by
  have hwr := hw r hr
  obtain ⟨k, n, c⟩ := r
  unfold Ld.wrongR at h ⊢
  unfold tidyR
  by_cases h1 : k < 1 ∨ 6 < k
  · simp only [h1, if_true] at h
    omega
  · simp only [h1, if_false] at h ⊢
    cases c with
    | none => simp at h
    | some x =>
      simp only [Option.map_some] at h ⊢
      by_cases h2 : Ld.number p.names n < 0
      · simp [h2] at h
      · rw [if_neg h2] at h ⊢
        by_cases h3 : Ld.kindAt p.names (Ld.number p.names n) ≠ Ld.kindOf k
        · rw [if_pos h3] at h
          omega
        · rw [if_neg h3] at h ⊢
          by_cases h4 : Ld.known p.names x = true
          · have h5 : Ld.known p.names x.tidy = true := by
              unfold Ld.known at h4 ⊢
              rw [List.all_eq_true] at h4 ⊢
              exact fun s hs => h4 s (Ex.named_tidy x (hwr x rfl) s hs)
            rw [if_pos h5]
          · rw [if_neg h4] at h
            omega
theorem bad_of_zero (f : Nat → Nat) : ∀ n, (∀ i, i < n → f i = 0) → Ld.bad f n = none
  | 0, _ => rfl
  | n + 1, h => Ld.bad_on f n (bad_of_zero f n fun i hi => h i (by omega)) (h n (by omega))
theorem check_parts (p : Ld.Prg) : Ld.check p = none ↔ (p.names.length ≤ 12 ∧ p.rungs.length ≤ 40) ∧ Ld.bad (Ld.nameAt p.names) p.names.length = none ∧ ∀ r, r ∈ p.rungs → Ld.wrongR p.names r = 0 := by
  unfold Ld.check
  by_cases hl : 12 < p.names.length ∨ 40 < p.rungs.length
  · rw [if_pos hl]
    constructor
    · intro h; cases h
    · intro h; omega
  · rw [if_neg hl]
    cases hn : Ld.bad (Ld.nameAt p.names) p.names.length with
    | some r =>
      constructor
      · intro h; cases h
      · intro h; cases h.2.1
    | none =>
      simp only
      cases hr : Ld.bad (Ld.rungAt p) p.rungs.length with
      | some r =>
        obtain ⟨e, i⟩ := r
        obtain ⟨h1, h2, h3⟩ := Ld.bad_lt _ _ _ _ hr
        constructor
        · intro h; cases h
        · intro h
          have := h.2.2 _ (List.getElem_mem h1)
          rw [Ld.rungAt_at _ _ h1, this] at h2
          exact absurd h2 h3
      | none =>
        simp only [true_and]
        refine ⟨fun _ => ⟨by omega, fun r hm => ?_⟩, fun _ => trivial⟩
        obtain ⟨i, hi, rfl⟩ := List.getElem_of_mem hm
        have := Ld.bad_none _ _ hr i hi
        rwa [Ld.rungAt_at _ _ hi] at this
theorem check_tidy (p : Ld.Prg) (hw : WfP p) (h : Ld.check p = none) : Ld.check (tidy p) = none := by
  obtain ⟨⟨h1, h2⟩, h3, h4⟩ := (check_parts p).1 h
  refine (check_parts (tidy p)).2 ⟨⟨h1, Nat.le_trans (tidy_fewer p) h2⟩, h3, fun r hr => ?_⟩
  obtain ⟨r', h5, rfl, _⟩ := tidy_rung p r hr
  exact wrong_tidy p hw r' h5 (h4 r' h5)
/-- a rung that is made tidy does the same -/
theorem doRung_tidy (ns : List Ld.Nme) (was : List Bool) (s : Sc.St) (r : Ld.Rng) (hw : ∀ x, r.cond = some x → x.Wf) : Sc.doRung ns was s (tidyR r) = Sc.doRung ns was s r := by
  unfold Sc.doRung tidyR
  cases hc : r.cond with
  | none => rfl
  | some x =>
    simp only [Option.map_some]
    rw [Ex.eval_tidy _ _ x (hw x hc)]
/-- one that is idle does nothing -/
theorem doRung_idle (p : Ld.Prg) (hck : Ld.check p = none) (was : List Bool) (s : Sc.St) (hb : Sc.Bd p s) (r : Ld.Rng) (hr : r ∈ p.rungs) (hw : ∀ x, r.cond = some x → x.Wf) (hi : idle (tidyR r) = true) : Sc.doRung p.names was s r = s := by
  obtain ⟨h1, h2, h3, h4, x, h5, _⟩ := Ld.check_rungs p hck r hr
  rcases Ld.number_cases p.names r.name with ⟨h6, _⟩ | ⟨n, hn, h6, _⟩
  · omega
  have hk : p.names[n].kind = Ld.kindOf r.kind := by
    rw [← h4, Ld.kindAt, h6, Int.toNat_natCast, List.getElem?_eq_getElem hn]
  have h7 : ∀ is wa, x.eval is wa = false := fun is wa => by
    rw [← Ex.eval_tidy is wa x (hw x h5)]
    refine Ex.eval_0 is wa _ ?_
    unfold idle tidyR at hi
    rw [h5] at hi
    simp only [Option.map_some, Bool.and_eq_true, beq_iff_eq] at hi
    exact hi.2
  have h8 : r.kind = 2 ∨ r.kind = 3 ∨ r.kind = 5 ∨ r.kind = 6 := by
    unfold idle idleK tidyR at hi
    simp only [Bool.and_eq_true, Bool.or_eq_true, beq_iff_eq] at hi
    omega
  unfold Sc.doRung
  rw [h5]
  simp only
  rw [if_pos h3, h7, h6, Int.toNat_natCast]
  have e2 : (p.names.getD n ⟨[], 0, 0⟩).count = p.names[n].count := by simp [hn]
  rw [e2]
  have hset : s.is.set n (s.is.getD n false) = s.is := by
    have : s.is.getD n false = s.is[n]'(by rw [hb.li]; exact hn) := by simp [hb.li, hn]
    rw [this, List.set_getElem_self]
  have hset2 : s.ct.set n (s.ct.getD n 0) = s.ct := by
    have : s.ct.getD n 0 = s.ct[n]'(by rw [hb.lc]; exact hn) := by simp [hb.lc, hn]
    rw [this, List.set_getElem_self]
  rcases h8 with e | e | e | e
  · rw [e]
    show (⟨s.is.set n (s.is.getD n false || false), s.ct⟩ : Sc.St) = s
    rw [Bool.or_false, hset]
  · rw [e]
    show (⟨s.is.set n (s.is.getD n false && !false), s.ct⟩ : Sc.St) = s
    rw [Bool.not_false, Bool.and_true, hset]
  · rw [e] at hk ⊢
    have hk2 : p.names[n].kind = 4 := hk
    have h9 := (hb.at_ n hn).2.2 (by omega)
    show (⟨s.is.set n (s.ct.getD n 0 == p.names[n].count), s.ct.set n (s.ct.getD n 0)⟩ : Sc.St) = s
    rw [← h9, hset, hset2]
  · rw [e]
    rfl
theorem fold_tidy (p : Ld.Prg) (hck : Ld.check p = none) (hw : WfP p) (was : List Bool) : ∀ (rs : List Ld.Rng), (∀ r, r ∈ rs → r ∈ p.rungs) → ∀ s, Sc.Bd p s →
    ((rs.map tidyR).filter fun r => !idle r).foldl (Sc.doRung p.names was) s = rs.foldl (Sc.doRung p.names was) s
  | [], _, _, _ => rfl
  | r :: rs, hrs, s, hb => by
    have hr := hrs r (by simp)
    have ih := fold_tidy p hck hw was rs (fun r hr => hrs r (by simp [hr])) _ (Sc.doRung_bd p hck was r hr s hb).1
    rw [List.map_cons, List.foldl_cons]
    cases hi : idle (tidyR r) with
    | true =>
      rw [List.filter_cons_of_neg (by simp [hi])]
      rw [doRung_idle p hck was s hb r hr (hw r hr) hi] at ih ⊢
      exact ih
    | false =>
      rw [List.filter_cons_of_pos (by simp [hi]), List.foldl_cons, doRung_tidy _ _ _ _ (hw r hr)]
      exact ih
/-- a scan of a program that is made tidy does the same -/
theorem step_tidy (p : Ld.Prg) (hck : Ld.check p = none) (hw : WfP p) (s : Sc.St) (hb : Sc.Bd p s) (inp : List Bool) : Sc.step (tidy p) s inp = Sc.step p s inp := by
  have hb0 : Sc.Bd p ⟨Sc.reads (Ld.kindL p.names 1) inp s.is, s.ct⟩ := by
    refine ⟨by simp only [Sc.reads_len]; exact hb.li, hb.lc, fun k hk => ?_⟩
    obtain ⟨h1, h2, h3⟩ := hb.at_ k hk
    refine ⟨h1, h2, fun h4 => ?_⟩
    simp only
    rw [Sc.reads_other _ _ _ _ (fun hm => by obtain ⟨hi, he⟩ := Ld.kindL_at _ _ _ hm; omega)]
    exact h3 h4
  exact fold_tidy p hck hw s.is p.rungs (fun _ h => h) _ hb0
theorem after_tidy (p : Ld.Prg) (hck : Ld.check p = none) (hw : WfP p) (ins : List (List Bool)) (hl : ∀ i, i ∈ ins → i.length = (Ld.kindL p.names 1).length) : Sc.after (tidy p) ins = Sc.after p ins := by
  have key : ∀ (ins : List (List Bool)) (s : Sc.St), Sc.Bd p s → (∀ i, i ∈ ins → i.length = (Ld.kindL p.names 1).length) → ins.foldl (Sc.step (tidy p)) s = ins.foldl (Sc.step p) s := by
    intro ins
    induction ins with
    | nil => intro s _ _; rfl
    | cons a r ih =>
      intro s hb hl
      rw [List.foldl_cons, List.foldl_cons, step_tidy p hck hw s hb a]
      exact ih _ (Sc.step_bd p hck s a hb (hl a (by simp))).1 (fun i hi => hl i (by simp [hi]))
  exact key ins _ (Sc.start_bd p hck) hl
theorem plays_tidy (p : Ld.Prg) (hck : Ld.check p = none) (hw : WfP p) (ins : List (List Bool)) (hl : ∀ i, i ∈ ins → i.length = (Ld.kindL p.names 1).length) (k : Nat) : Sc.plays (tidy p) ins k = Sc.plays p ins k := by
  unfold Sc.plays
  refine List.map_congr_left fun j _ => ?_
  exact after_tidy p hck hw _ (fun i hi => hl i (List.mem_of_mem_take hi))
end Sl
end
section
namespace Ld
/-- all that rungs ask was read -/
def Par (rs : List Rng) : Prop := ∀ g, g ∈ rs → ∀ x, g.cond = some x → ∃ l, Ex.parse l = .inr x
theorem take_par (r r' : Rdg) (st : Nat) (line : List UInt8) (h : Par r.rungs) (ht : take r st line = .inr r') : Par r'.rungs := by
  unfold take at ht
  cases hc : cutE line with
  | none =>
    rw [hc] at ht
    simp only at ht
    cases hn : rdName (words line) with
    | none => rw [hn] at ht; cases ht
    | some n =>
      rw [hn] at ht
      simp only at ht
      split at ht
      · cases ht; exact h
      · cases ht
  | some p =>
    obtain ⟨hd, t⟩ := p
    rw [hc] at ht
    simp only at ht
    cases hh : rdHead (words hd) with
    | none => rw [hh] at ht; cases ht
    | some q =>
      obtain ⟨k, nm⟩ := q
      rw [hh] at ht
      simp only at ht
      cases hp : Ex.parse t with
      | inl e => rw [hp] at ht; cases ht
      | inr x =>
        rw [hp] at ht
        cases ht
        intro g hg y hy
        rcases List.mem_append.1 hg with hg | hg
        · exact h g hg y hy
        · have : g = ⟨(k : Int), nm, some x⟩ := by simpa using hg
          subst this
          cases hy
          exact ⟨t, hp⟩
theorem takes_par : ∀ (l : List (Nat × List UInt8)) (r r' : Rdg), Par r.rungs → takes r l = .inr r' → Par r'.rungs
  | [], r, r', h, ht => by cases ht; exact h
  | p :: t, r, r', h, ht => by
    unfold takes at ht
    cases hk : take r p.1 p.2 with
    | inl e => rw [hk] at ht; cases ht
    | inr r2 =>
      rw [hk] at ht
      exact takes_par t r2 r' (take_par r r2 p.1 p.2 h hk) ht
theorem parse_par (l : List UInt8) (p : Prg) (h : parse l = .inr p) : Par p.rungs := by
  unfold parse at h
  split at h
  · cases h
  · split at h
    · cases h
    · rename_i r hr
      unfold checked at h
      split at h
      · cases h
        exact takes_par _ _ r (fun g hg => by cases hg) hr
      · cases h
      · cases h
end Ld
namespace Ex
theorem cost_sum (c : Nat) : ∀ (l : List Ex), (∀ y, y ∈ l → cost y ≤ c * y.size) → (l.map fun y => cost y + y.size).sum ≤ (c + 1) * (l.map fun y => y.size).sum
  | [], _ => by simp
  | a :: r, h => by
    have h1 := h a (by simp)
    have h2 := cost_sum c r fun y hy => h y (by simp [hy])
    simp only [List.map_cons, List.sum_cons]
    generalize (r.map fun y => cost y + y.size).sum = p at *
    generalize (r.map fun y => y.size).sum = q at *
    rw [Nat.mul_add, Nat.add_mul c 1 a.size]
    omega
theorem cost_one (c : Nat) (k : Nat) (nm : List UInt8) (l : List Ex) (h : ∀ y, y ∈ l → cost y ≤ c * y.size) : cost ⟨k, nm, l⟩ ≤ (c + 1) * size ⟨k, nm, l⟩ := by
  have := cost_sum c l h
  rw [cost_def, size_def]
  generalize (l.map fun y => cost y + y.size).sum = p at *
  generalize (l.map fun y => y.size).sum = q at *
  rw [Nat.mul_add]
  omega
theorem cost_fit : ∀ (D : Nat) (x : Ex), FitP D x → cost x ≤ 2 * D * x.size := by
  intro D
  induction D with
  | zero => intro x h; exact absurd h (by simp [FitP])
  | succ D ih =>
    have up : ∀ (y : Ex), cost y ≤ (2 * D + 1) * y.size → cost y ≤ 2 * (D + 1) * y.size := fun y h => Nat.le_trans h (Nat.mul_le_mul_right _ (by omega))
    have hq : ∀ y, FitQ (FitP D) y → cost y ≤ (2 * D + 1) * y.size := by
      intro y h
      rcases h with ⟨h1, h2, h3, h4⟩ | ⟨_, h2⟩
      · obtain ⟨k, nm, l⟩ := y
        exact cost_one (2 * D) k nm l fun z hz => ih z (h4 z hz)
      · exact Nat.le_trans (ih y h2) (Nat.mul_le_mul_right _ (by omega))
    intro x h
    obtain ⟨k, nm, l⟩ := x
    simp only [FitP] at h
    rcases h with ⟨h1, h2, h3⟩ | ⟨h1, h2, h3, h4⟩ | ⟨h1, h2, y, h3, h4⟩ | ⟨h1, h2, h3, h4⟩ | ⟨h1, h2, h3, h4⟩
    · subst h3; exact up _ (cost_one (2 * D) k nm [] (fun y hy => by cases hy))
    · subst h4; exact up _ (cost_one (2 * D) k nm [] (fun y hy => by cases hy))
    · subst h3
      exact up _ (cost_one (2 * D) k nm [y] (fun z hz => by rw [List.mem_singleton.1 hz]; exact ih y h4))
    · exact up _ (cost_one (2 * D) k nm l (fun z hz => ih z (h4 z hz)))
    · exact cost_one (2 * D + 1) k nm l (fun z hz => hq z (h4 z hz))
theorem cost_parse (l : List UInt8) (x : Ex) (h : parse l = .inr x) : cost x ≤ 84000 := by
  have h1 := cost_fit 21 x (FitW.piece 20 x (parse_fit l x h))
  have h2 := parse_bnd l x h
  have h3 : 2 * 21 * x.size ≤ 2 * 21 * 2000 := Nat.mul_le_mul_left _ (by omega)
  omega
end Ex
namespace Sl
theorem par_wf {p : Ld.Prg} (h : Ld.Par p.rungs) : WfP p := fun r hr x hx => by
  obtain ⟨l, hl⟩ := h r hr x hx
  exact Ex.parse_wf l x hl
end Sl
end
section
namespace Ex
theorem Gth.mem {k : Nat} {L U : List Ex} (h : Gth k L U false) (y : Ex) : y ∈ U ↔ y ∈ nc L := by
  rw [h.2 rfl, mem_addAll]; simp
theorem Gth.nodec {k : Nat} {L U : List Ex} (h : Gth k L U false) : ¬ dec k L := fun e => by simpa using h.1.2 e
theorem Gth.atOther {k : Nat} {L U : List Ex} (h : Gth k L U false) {y : Ex} (h2 : 2 ≤ y.kind) (ho : other y ∈ U) (M : List Ex) : gather k (L ++ [y] ++ M) = ⟨allK k, [], []⟩ := by
  refine gather_dec k _ (.inr ⟨y, ?_, ?_⟩)
  · rw [mem_nc]; exact ⟨by simp, h2⟩
  · have h1 := (h.mem _).1 ho
    rw [mem_nc] at h1 ⊢
    exact ⟨by simp [h1.1], h1.2⟩
theorem Gth.atAll {k : Nat} {L : List Ex} {t : Ex} (ht : t.kind = allK k) (M : List Ex) : gather k (L ++ [t] ++ M) = ⟨allK k, [], []⟩ := gather_dec k _ (.inl ⟨t, by simp, ht⟩)
theorem Gth.atNone {k : Nat} {L U : List Ex} (h : Gth k L U false) {t : Ex} (ht : t.kind = noneK k) (hL : ∀ y, y ∈ L → Td y) (hx : Td t) : Gth k (L ++ [t]) U false := by
  have h1 := h.step t hL hx
  rw [addS_const k U false t (by rw [ht]; exact noneK_le k)] at h1
  have e : (false || decide (t.kind = allK k)) = false := by
    rw [Bool.false_or, decide_eq_false_iff_not, ht]
    exact none_ne_all k
  rw [e] at h1
  exact h1
theorem Gth.atThere {k : Nat} {L U : List Ex} (h : Gth k L U false) {y : Ex} (h2 : 2 ≤ y.kind) (hy : y ∈ U) (hL : ∀ y, y ∈ L → Td y) (hx : Td y) : Gth k (L ++ [y]) U false := by
  have h1 := h.step y hL hx
  rw [addS_mem k U false y h2 hy] at h1
  exact h1
theorem Gth.atNew {k : Nat} {L U : List Ex} (h : Gth k L U false) {y : Ex} (h2 : 2 ≤ y.kind) (hy : y ∉ U) (ho : other y ∉ U) (hL : ∀ y, y ∈ L → Td y) (hx : Td y) : Gth k (L ++ [y]) (U ++ [y]) false := by
  have h1 := h.step y hL hx
  rw [addS_new k U false y h2 hy ho] at h1
  exact h1
end Ex
/-- a text is not much longer than its expression is great -/
theorem text_sizeR (x : Ex) : Ex.Wf x → x.text.length + 5 ≤ 20 * x.size := by
  induction x using Ex.ind with
  | h k nm l ih =>
    intro hw
    rw [Ex.Wf.def] at hw
    obtain ⟨hs, hl⟩ := hw
    rw [Ex.size_def]
    have hsum : ∀ (q : Nat) (r : List Ex), (∀ y, y ∈ r → y.text.length + 5 ≤ 20 * y.size) → ((r.map fun x => Ex.par (decide (q ≤ x.kind)) x.text).map List.length).sum + 3 * r.length ≤ 20 * (r.map fun x => x.size).sum := by
      intro q r
      induction r with
      | nil => intro _; simp
      | cons a r ihr =>
        intro h
        have h1 := h a (by simp)
        have h2 := ihr fun y hy => h y (by simp [hy])
        have h3 := (Ex.par_le (decide (q ≤ a.kind)) a.text).2
        simp only [List.map_cons, List.sum_cons, List.length_cons] at *
        omega
    rcases hs with ⟨h1, rfl, h3⟩ | ⟨h1, h2, h3, h4⟩ | ⟨rfl, rfl, h3⟩ | ⟨h1, h2, rfl, h4⟩
    · rcases Nat.le_one_iff_eq_zero_or_eq_one.1 h1 with rfl | rfl
      · simp [Ex.text]; omega
      · simp [Ex.text]; omega
    · have hn : nm.length ≤ 8 := by
        unfold Nm.name at h3
        simp only [Bool.and_eq_true, decide_eq_true_eq] at h3
        omega
      have hk : k = 2 ∨ k = 3 ∨ k = 4 := by omega
      rcases hk with rfl | rfl | rfl
      · simp [Ex.text]; omega
      · simp [Ex.text]; omega
      · simp [Ex.text]; omega
    · match l, h3, ih, hl with
      | [y], _, ih, hl =>
        have h5 := ih y (by simp) (hl y (by simp))
        have h6 := (Ex.par_le (decide (6 ≤ y.kind)) y.text).2
        rw [Ex.text5]
        simp only [List.length_cons, List.map_cons, List.map_nil, List.sum_cons, List.sum_nil]
        omega
    · have hne : l ≠ [] := by intro e; rw [e] at h4; simp at h4
      have hk : k = 6 ∨ k = 7 := by omega
      rcases hk with rfl | rfl
      · rw [Ex.text6]
        have h5 := Ex.join_len [32, 38, 32] rfl (l.map fun x => Ex.par (decide (6 ≤ x.kind)) x.text) (by simpa using hne)
        have h6 := hsum 6 l fun y hy => ih y hy (hl y hy)
        rw [List.length_map] at h5
        omega
      · rw [Ex.text7]
        have h5 := Ex.join_len [32, 124, 32] rfl (l.map fun x => Ex.par (decide (7 ≤ x.kind)) x.text) (by simpa using hne)
        have h6 := hsum 7 l fun y hy => ih y hy (hl y hy)
        rw [List.length_map] at h5
        omega
end
end Go.Proofs.YtjfgfcajmkbmeaaGreatDoor
