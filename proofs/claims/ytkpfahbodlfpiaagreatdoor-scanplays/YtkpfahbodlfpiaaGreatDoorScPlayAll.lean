/-
  Plain mathematics: along a play counts stay within their bounds, timers and counters are true just where they are there, and inputs are what came. Slices of slices of bools, and of states, in memory. The walk of package scan's Play, on inputs that fit.
-/
import Derived.Test.YtkpfahbodlfpiaaGreatDoorScTwoAll
import Derived.Test.YtkpfahbodlfpiaaGreatDoorLdBack
import Derived.Test.YtkpfahbodlfpiaaGreatDoorScStepA
namespace Go.Proofs.YtkpfahbodlfpiaaGreatDoor
section
namespace Ld
theorem check_rungs (p : Prg) (h : check p = none) : ∀ r, r ∈ p.rungs → 1 ≤ r.kind ∧ r.kind ≤ 6 ∧ 0 ≤ number p.names r.name ∧ kindAt p.names (number p.names r.name) = kindOf r.kind ∧ ∃ x, r.cond = some x ∧ known p.names x = true := by
  unfold check at h
  by_cases hl : 12 < p.names.length ∨ 40 < p.rungs.length
  · rw [if_pos hl] at h; cases h
  rw [if_neg hl] at h
  cases hn : bad (nameAt p.names) p.names.length with
  | some r => rw [hn] at h; cases h
  | none =>
    rw [hn] at h
    simp only at h
    cases hr : bad (rungAt p) p.rungs.length with
    | some r => rw [hr] at h; cases h
    | none =>
      intro r hm
      obtain ⟨i, hi, rfl⟩ := List.getElem_of_mem hm
      have := bad_none _ _ hr i hi
      rw [rungAt_at _ _ hi, wrongR] at this
      by_cases h1 : p.rungs[i].kind < 1 ∨ 6 < p.rungs[i].kind
      · rw [if_pos h1] at this; cases this
      rw [if_neg h1] at this
      cases hc : p.rungs[i].cond with
      | none => rw [hc] at this; cases this
      | some x =>
        rw [hc] at this
        simp only at this
        by_cases h2 : number p.names p.rungs[i].name < 0
        · rw [if_pos h2] at this; cases this
        rw [if_neg h2] at this
        by_cases h3 : kindAt p.names (number p.names p.rungs[i].name) ≠ kindOf p.rungs[i].kind
        · rw [if_pos h3] at this; cases this
        rw [if_neg h3] at this
        by_cases h4 : known p.names x = true
        · exact ⟨by omega, by omega, by omega, Classical.not_not.1 h3, x, rfl, h4⟩
        · rw [if_neg h4] at this; cases this
theorem kindL_at (ns : List Nme) (k : Int) (i : Nat) (h : i ∈ kindL ns k) : ∃ hi : i < ns.length, ns[i].kind = k := by
  unfold kindL placesTo at h
  obtain ⟨h1, h2⟩ := List.mem_filter.1 h
  have hi := List.mem_range.1 h1
  rw [List.getElem?_eq_getElem hi] at h2
  exact ⟨hi, by simpa using h2⟩
theorem kindL_nodup (ns : List Nme) (k : Int) : (kindL ns k).Nodup := by
  unfold kindL placesTo
  exact List.nodup_range.filter _
end Ld
namespace Sc
theorem getD_set {α : Type} (l : List α) (n : Nat) (v d : α) (j : Nat) : (l.set n v).getD j d = if j = n ∧ n < l.length then v else l.getD j d := by
  rw [List.getD_eq_getElem?_getD, List.getD_eq_getElem?_getD, List.getElem?_set]
  by_cases h : n = j
  · subst h
    by_cases h2 : n < l.length
    · simp [h2]
    · simp [h2]
  · rw [if_neg h, if_neg (fun e => h e.1.symm)]
/-- a state of a program is within its bounds -/
structure Bd (p : Ld.Prg) (s : St) : Prop where
  li : s.is.length = p.names.length
  lc : s.ct.length = p.names.length
  at_ : ∀ k (h : k < p.names.length), 0 ≤ s.ct.getD k 0 ∧ s.ct.getD k 0 ≤ p.names[k].count ∧ (3 ≤ p.names[k].kind → s.is.getD k false = (s.ct.getD k 0 == p.names[k].count))
theorem may (p : Ld.Prg) (h : Ld.check p = none) (k : Nat) (hk : k < p.names.length) : 1 ≤ p.names[k].kind ∧ p.names[k].kind ≤ 4 ∧ (3 ≤ p.names[k].kind → 1 ≤ p.names[k].count ∧ p.names[k].count ≤ 7) ∧ (p.names[k].kind < 3 → p.names[k].count = 0) := by
  obtain ⟨_, h1, h2, h3⟩ := (Ld.check_names p h).2.2.1 _ (List.getElem_mem hk)
  refine ⟨h1, h2, ?_, ?_⟩
  · intro h4
    have hc : Ld.counted p.names[k].kind = true := by unfold Ld.counted; simp; omega
    unfold Ld.mayCount at h3
    rw [if_pos hc] at h3
    simpa using h3
  · intro h4
    have hc : ¬ Ld.counted p.names[k].kind = true := by unfold Ld.counted; simp; omega
    unfold Ld.mayCount at h3
    rw [if_neg hc] at h3
    simpa using h3
theorem Bd.small {p : Ld.Prg} {s : St} (hb : Bd p s) (h : Ld.check p = none) : ∀ c, c ∈ s.ct → 0 ≤ c ∧ c ≤ 7 := by
  intro c hc
  obtain ⟨i, hi, rfl⟩ := List.getElem_of_mem hc
  have hi' : i < p.names.length := by rw [← hb.lc]; exact hi
  have h1 := hb.at_ i hi'
  obtain ⟨_, _, h3, h4⟩ := may p h i hi'
  have e : s.ct.getD i 0 = s.ct[i] := by simp [hi]
  rw [e] at h1
  refine ⟨h1.1, ?_⟩
  by_cases hk : 3 ≤ p.names[i].kind
  · have := (h3 hk).2; omega
  · have := h4 (by omega); omega
theorem start_bd (p : Ld.Prg) (h : Ld.check p = none) : Bd p (start p) := by
  refine ⟨by simp [start], by simp [start], fun k hk => ?_⟩
  obtain ⟨_, _, h3, h4⟩ := may p h k hk
  have e : (start p).ct.getD k 0 = 0 := by simp [start, hk]
  have e2 : (start p).is.getD k false = false := by simp [start, hk]
  rw [e, e2]
  refine ⟨by omega, ?_, ?_⟩
  · by_cases h5 : 3 ≤ p.names[k].kind
    · have := (h3 h5).1; omega
    · have := h4 (by omega); omega
  · intro h5
    have := (h3 h5).1
    have hne : ¬ (0 : Int) = p.names[k].count := by omega
    simpa using hne
theorem rung_other (k : Int) (hk : 1 ≤ k ∧ k ≤ 6) (n : Nat) (most : Int) (says : Bool) (s : St) (j : Nat) (e : ¬ j = n) : (rung k n most says s).is.getD j false = s.is.getD j false ∧ (rung k n most says s).ct.getD j 0 = s.ct.getD j 0 := by
  have h1 : ∀ v, (s.is.set n v).getD j false = s.is.getD j false := fun v => by rw [getD_set, if_neg (fun h => e h.1)]
  have h2 : ∀ v, (s.ct.set n v).getD j 0 = s.ct.getD j 0 := fun v => by rw [getD_set, if_neg (fun h => e h.1)]
  rcases (show k = 1 ∨ k = 2 ∨ k = 3 ∨ k = 4 ∨ k = 5 ∨ k = 6 by omega) with rfl | rfl | rfl | rfl | rfl | rfl
  · exact ⟨h1 _, rfl⟩
  · exact ⟨h1 _, rfl⟩
  · exact ⟨h1 _, rfl⟩
  · exact ⟨h1 _, h2 _⟩
  · exact ⟨h1 _, h2 _⟩
  · cases says with
    | false => exact ⟨rfl, rfl⟩
    | true => exact ⟨h1 _, h2 _⟩
/-- what a rung leaves: bounds, and the inputs as they were -/
theorem rung_bd (p : Ld.Prg) (h : Ld.check p = none) (k : Int) (hk : 1 ≤ k ∧ k ≤ 6) (n : Nat) (hn : n < p.names.length) (hkn : p.names[n].kind = Ld.kindOf k) (says : Bool) (s : St) (hb : Bd p s) :
    Bd p (rung k n p.names[n].count says s) ∧ ∀ j (hj : j < p.names.length), p.names[j].kind = 1 → (rung k n p.names[n].count says s).is.getD j false = s.is.getD j false := by
  obtain ⟨l1, l2⟩ := rung_len k n p.names[n].count says s
  have hli := hb.li
  have hlc := hb.lc
  obtain ⟨_, _, h3, h4⟩ := may p h n hn
  have hcn := hb.at_ n hn
  have key : ∀ j (hj : j < p.names.length), (0 ≤ (rung k n p.names[n].count says s).ct.getD j 0 ∧ (rung k n p.names[n].count says s).ct.getD j 0 ≤ p.names[j].count ∧ (3 ≤ p.names[j].kind → (rung k n p.names[n].count says s).is.getD j false = ((rung k n p.names[n].count says s).ct.getD j 0 == p.names[j].count))) ∧ (p.names[j].kind = 1 → (rung k n p.names[n].count says s).is.getD j false = s.is.getD j false) := by
    intro j hj
    by_cases e : j = n
    · subst e
      have hni : j < s.is.length := by omega
      have hnc : j < s.ct.length := by omega
      have hf : 0 ≤ further (s.ct.getD j 0) p.names[j].count ∧ further (s.ct.getD j 0) p.names[j].count ≤ p.names[j].count := by unfold further; split <;> omega
      rcases (show k = 1 ∨ k = 2 ∨ k = 3 ∨ k = 4 ∨ k = 5 ∨ k = 6 by omega) with rfl | rfl | rfl | rfl | rfl | rfl
      · have hk2 : p.names[j].kind = 2 := hkn
        exact ⟨⟨hcn.1, hcn.2.1, fun h5 => absurd h5 (by omega)⟩, fun h5 => absurd h5 (by omega)⟩
      · have hk2 : p.names[j].kind = 2 := hkn
        exact ⟨⟨hcn.1, hcn.2.1, fun h5 => absurd h5 (by omega)⟩, fun h5 => absurd h5 (by omega)⟩
      · have hk2 : p.names[j].kind = 2 := hkn
        exact ⟨⟨hcn.1, hcn.2.1, fun h5 => absurd h5 (by omega)⟩, fun h5 => absurd h5 (by omega)⟩
      · have hk2 : p.names[j].kind = 3 := hkn
        have h6 := (h3 (by omega)).1
        refine ⟨?_, fun h5 => absurd h5 (by omega)⟩
        show 0 ≤ (run j p.names[j].count says s).ct.getD j 0 ∧ (run j p.names[j].count says s).ct.getD j 0 ≤ p.names[j].count ∧ (3 ≤ p.names[j].kind → (run j p.names[j].count says s).is.getD j false = ((run j p.names[j].count says s).ct.getD j 0 == p.names[j].count))
        unfold run
        simp only [getD_set, hni, hnc, and_self, if_true]
        refine ⟨?_, ?_, fun _ => trivial⟩
        · split <;> omega
        · split <;> omega
      · have hk2 : p.names[j].kind = 4 := hkn
        refine ⟨?_, fun h5 => absurd h5 (by omega)⟩
        show 0 ≤ (count j p.names[j].count says s).ct.getD j 0 ∧ (count j p.names[j].count says s).ct.getD j 0 ≤ p.names[j].count ∧ (3 ≤ p.names[j].kind → (count j p.names[j].count says s).is.getD j false = ((count j p.names[j].count says s).ct.getD j 0 == p.names[j].count))
        unfold count
        simp only [getD_set, hni, hnc, and_self, if_true]
        refine ⟨?_, ?_, fun _ => trivial⟩
        · split <;> omega
        · split <;> omega
      · have hk2 : p.names[j].kind = 4 := hkn
        have h6 := (h3 (by omega)).1
        refine ⟨?_, fun h5 => absurd h5 (by omega)⟩
        show 0 ≤ (zero j says s).ct.getD j 0 ∧ (zero j says s).ct.getD j 0 ≤ p.names[j].count ∧ (3 ≤ p.names[j].kind → (zero j says s).is.getD j false = ((zero j says s).ct.getD j 0 == p.names[j].count))
        unfold zero
        cases says with
        | false => exact hcn
        | true =>
          simp only [getD_set, hni, hnc, and_self, if_true]
          refine ⟨by omega, by omega, fun _ => ?_⟩
          have hne : ¬ (0 : Int) = p.names[j].count := by omega
          simpa using hne
    · obtain ⟨e1, e2⟩ := rung_other k hk n p.names[n].count says s j e
      rw [e1, e2]
      exact ⟨hb.at_ j hj, fun _ => rfl⟩
  exact ⟨⟨by omega, by omega, fun j hj => (key j hj).1⟩, fun j hj => (key j hj).2⟩
theorem doRung_bd (p : Ld.Prg) (h : Ld.check p = none) (was : List Bool) (r : Ld.Rng) (hr : r ∈ p.rungs) (s : St) (hb : Bd p s) :
    Bd p (doRung p.names was s r) ∧ ∀ j (hj : j < p.names.length), p.names[j].kind = 1 → (doRung p.names was s r).is.getD j false = s.is.getD j false := by
  obtain ⟨h1, h2, h3, h4, x, h5, _⟩ := Ld.check_rungs p h r hr
  unfold doRung
  rw [h5]
  simp only
  rw [if_pos h3]
  rcases Ld.number_cases p.names r.name with ⟨h6, _⟩ | ⟨n, hn, h6, _⟩
  · omega
  · rw [h6] at h4 ⊢
    have e1 : ((n : Int)).toNat = n := by omega
    have hk : p.names[n].kind = Ld.kindOf r.kind := by
      rw [← h4, Ld.kindAt, e1, List.getElem?_eq_getElem hn]
    have e2 : (p.names.getD n ⟨[], 0, 0⟩).count = p.names[n].count := by simp [hn]
    rw [e1, e2]
    exact rung_bd p h r.kind ⟨h1, h2⟩ n hn hk _ s hb
theorem fold_bd (p : Ld.Prg) (h : Ld.check p = none) (was : List Bool) : ∀ (rs : List Ld.Rng), (∀ r, r ∈ rs → r ∈ p.rungs) → ∀ s, Bd p s →
    Bd p (rs.foldl (doRung p.names was) s) ∧ ∀ j (hj : j < p.names.length), p.names[j].kind = 1 → (rs.foldl (doRung p.names was) s).is.getD j false = s.is.getD j false
  | [], _, s, hb => ⟨hb, fun _ _ _ => rfl⟩
  | r :: rs, hrs, s, hb => by
    obtain ⟨h1, h2⟩ := doRung_bd p h was r (hrs r (by simp)) s hb
    obtain ⟨h3, h4⟩ := fold_bd p h was rs (fun r hr => hrs r (by simp [hr])) _ h1
    exact ⟨h3, fun j hj hk => (h4 j hj hk).trans (h2 j hj hk)⟩
theorem reads_len (l : List Nat) (inp is : List Bool) : (reads l inp is).length = is.length := by
  have key : ∀ (ps : List (Nat × Bool)) (is : List Bool), (ps.foldl (fun acc p => acc.set p.1 p.2) is).length = is.length := by
    intro ps
    induction ps with
    | nil => intro is; rfl
    | cons a r ih => intro is; rw [List.foldl_cons, ih]; simp
  exact key _ _
theorem reads_other (l : List Nat) (inp is : List Bool) (j : Nat) (hj : j ∉ l) : (reads l inp is).getD j false = is.getD j false := by
  have key : ∀ (ps : List (Nat × Bool)) (is : List Bool), (∀ q, q ∈ ps → q.1 ≠ j) → (ps.foldl (fun acc p => acc.set p.1 p.2) is).getD j false = is.getD j false := by
    intro ps
    induction ps with
    | nil => intro is _; rfl
    | cons a r ih =>
      intro is hq
      rw [List.foldl_cons, ih _ (fun q hq2 => hq q (by simp [hq2])), getD_set, if_neg]
      intro e
      exact hq a (by simp) e.1.symm
  exact key _ _ (fun q hq e => hj (by rw [← e]; exact (List.of_mem_zip hq).1))
theorem reads_at : ∀ (l : List Nat) (inp is : List Bool), l.Nodup → inp.length = l.length → (∀ j, j ∈ l → j < is.length) → ∀ k (hk : k < l.length), (reads l inp is).getD l[k] false = inp.getD k false
  | [], _, _, _, _, _, k, hk => by simp at hk
  | a :: l, [], _, _, hl, _, _, _ => by simp at hl
  | a :: l, b :: inp, is, hnd, hl, hlt, k, hk => by
    have e : reads (a :: l) (b :: inp) is = reads l inp (is.set a b) := rfl
    rw [e]
    have hnd' := List.nodup_cons.1 hnd
    cases k with
    | zero =>
      show (reads l inp (is.set a b)).getD a false = b
      rw [reads_other l inp _ a hnd'.1, getD_set, if_pos ⟨rfl, hlt a (by simp)⟩]
    | succ k =>
      have := reads_at l inp (is.set a b) hnd'.2 (by simpa using hl) (fun j hj => by rw [List.length_set]; exact hlt j (by simp [hj])) k (by simpa using hk)
      simpa using this
theorem step_bd (p : Ld.Prg) (h : Ld.check p = none) (s : St) (inp : List Bool) (hb : Bd p s) (hl : inp.length = (Ld.kindL p.names 1).length) :
    Bd p (step p s inp) ∧ ∀ k (hk : k < (Ld.kindL p.names 1).length), (step p s inp).is.getD (Ld.kindL p.names 1)[k] false = inp.getD k false := by
  have hb0 : Bd p ⟨reads (Ld.kindL p.names 1) inp s.is, s.ct⟩ := by
    refine ⟨by simp only [reads_len]; exact hb.li, hb.lc, fun k hk => ?_⟩
    obtain ⟨h1, h2, h3⟩ := hb.at_ k hk
    refine ⟨h1, h2, fun h4 => ?_⟩
    simp only
    rw [reads_other _ _ _ _ (fun hm => by obtain ⟨hi, he⟩ := Ld.kindL_at _ _ _ hm; omega)]
    exact h3 h4
  obtain ⟨h1, h2⟩ := fold_bd p h s.is p.rungs (fun _ hr => hr) _ hb0
  refine ⟨h1, fun k hk => ?_⟩
  obtain ⟨hi, he⟩ := Ld.kindL_at _ _ _ (List.getElem_mem hk)
  refine (h2 _ hi he).trans ?_
  exact reads_at _ _ _ (Ld.kindL_nodup _ _) hl (fun j hj => by obtain ⟨hi, _⟩ := Ld.kindL_at _ _ _ hj; rw [hb.li]; exact hi) k hk
/-- the state behind some scans -/
def after (p : Ld.Prg) (ins : List (List Bool)) : St := ins.foldl (step p) (start p)
theorem after_bd (p : Ld.Prg) (h : Ld.check p = none) (ins : List (List Bool)) (hl : ∀ i, i ∈ ins → i.length = (Ld.kindL p.names 1).length) : Bd p (after p ins) := by
  have key : ∀ (ins : List (List Bool)) (s : St), Bd p s → (∀ i, i ∈ ins → i.length = (Ld.kindL p.names 1).length) → Bd p (ins.foldl (step p) s) := by
    intro ins
    induction ins with
    | nil => intro s hb _; exact hb
    | cons a r ih => intro s hb hl; exact ih _ (step_bd p h s a hb (hl a (by simp))).1 (fun i hi => hl i (by simp [hi]))
  exact key ins _ (start_bd p h) hl
theorem after_snoc (p : Ld.Prg) (ins : List (List Bool)) (a : List Bool) : after p (ins ++ [a]) = step p (after p ins) a := by
  unfold after; rw [List.foldl_append]; rfl
/-- the states behind each of the first k scans -/
def plays (p : Ld.Prg) (ins : List (List Bool)) (k : Nat) : List St := (List.range k).map fun j => after p (ins.take (j + 1))
theorem plays_succ (p : Ld.Prg) (ins : List (List Bool)) (k : Nat) (hk : k < ins.length) : plays p ins (k + 1) = plays p ins k ++ [step p (after p (ins.take k)) ins[k]] := by
  unfold plays
  rw [List.range_succ, List.map_append, List.map_singleton, List.take_succ_eq_append_getElem hk, after_snoc]
theorem plays_len (p : Ld.Prg) (ins : List (List Bool)) (k : Nat) : (plays p ins k).length = k := by simp [plays]
end Sc
end
section
open Go.RowKit
theorem Tryz.infoState : (Tryz.prog.info? 52).map (fun i => (i.zero, i.size, i.bytes)) = some (some (.agg #[.slice none 0 0, .slice none 0 0]), 2, 48) := by kernel_rfl
def slV (g n : Nat) : Value := .slice (some ⟨g, 0, none⟩) n n
def stCells (n : Nat) (q : Nat × Nat) : List Value := [slV q.1 n, slV q.2 n]
/-- a slice of slices of bools -/
def InsAt (w : World) (v : Value) (ll : List (List Bool)) : Prop :=
  (ll = [] ∧ ∃ a cap, v = .slice a 0 cap) ∨ ∃ g cap, v = .slice (some ⟨g, 0, none⟩) ll.length cap ∧ ll.length ≤ cap ∧ ∀ (i : Nat) l, ll[i]? = some l → ∃ u, w.cell? ⟨g, i, none⟩ = some u ∧ Bools w u l
theorem InsAt.below {w w' : World} {v : Value} {ll : List (List Bool)} (h : InsAt w v ll) (hb : Below w.heap.size w w') : InsAt w' v ll := by
  rcases h with h | ⟨g, cap, h1, h2, h3⟩
  · exact .inl h
  · refine .inr ⟨g, cap, h1, h2, fun i l hi => ?_⟩
    obtain ⟨u, h4, h5⟩ := h3 i l hi
    exact ⟨u, (hb.cell (World.block_lt_of_cell? _ _ h4)).trans h4, h5.below hb⟩
theorem InsAt.slice {w : World} {v : Value} {ll : List (List Bool)} (h : InsAt w v ll) : ∃ a c, v = .slice a ll.length c := by
  rcases h with ⟨rfl, a, c, rfl⟩ | ⟨g, cap, rfl, _⟩
  · exact ⟨a, c, rfl⟩
  · exact ⟨_, _, rfl⟩
/-- a slice of states, each of n names -/
def StatesAt (w : World) (n : Nat) (v : Value) (ss : List Sc.St) : Prop :=
  (ss = [] ∧ ∃ a cap, v = .slice a 0 cap) ∨ ∃ g cap, v = .slice (some ⟨g, 0, none⟩) ss.length cap ∧ ss.length ≤ cap ∧ ∀ (i : Nat) s, ss[i]? = some s → ∃ gi gc, w.cell? ⟨g, i * 2, none⟩ = some (slV gi n) ∧ w.cell? ⟨g, i * 2 + 1, none⟩ = some (slV gc n) ∧ StAt w gi gc s
theorem StatesAt.below {w w' : World} {n : Nat} {v : Value} {ss : List Sc.St} (h : StatesAt w n v ss) (hb : Below w.heap.size w w') : StatesAt w' n v ss := by
  rcases h with h | ⟨g, cap, h1, h2, h3⟩
  · exact .inl h
  · refine .inr ⟨g, cap, h1, h2, fun i s hi => ?_⟩
    obtain ⟨gi, gc, h4, h5, h6⟩ := h3 i s hi
    exact ⟨gi, gc, (hb.cell (World.block_lt_of_cell? _ _ h4)).trans h4, (hb.cell (World.block_lt_of_cell? _ _ h5)).trans h5, h6.below hb⟩
theorem StatesAt.slice {w : World} {n : Nat} {v : Value} {ss : List Sc.St} (h : StatesAt w n v ss) : ∃ a c, v = .slice a ss.length c := by
  rcases h with ⟨rfl, a, c, rfl⟩ | ⟨g, cap, rfl, _⟩
  · exact ⟨a, c, rfl⟩
  · exact ⟨_, _, rfl⟩
theorem flat2 {α : Type} (f : α → List Value) (hf : ∀ a, (f a).length = 2) : ∀ (l : List α) (i : Nat) (a : α), l[i]? = some a → ∀ j, j < 2 → (l.flatMap f)[i * 2 + j]? = (f a)[j]?
  | [], i, a, h, _, _ => by simp at h
  | x :: l, 0, a, h, j, hj => by
    simp only [List.getElem?_cons_zero, Option.some.injEq] at h
    subst h
    rw [List.flatMap_cons, List.getElem?_append_left (by rw [hf]; omega)]
    congr 1; omega
  | x :: l, i + 1, a, h, j, hj => by
    have ih := flat2 f hf l i a (by simpa using h) j hj
    rw [List.flatMap_cons, List.getElem?_append_right (by rw [hf]; omega), hf]
    have : (i + 1) * 2 + j - 2 = i * 2 + j := by omega
    rw [this]; exact ih
/-- what Play comes to in memory -/
def Played (w : World) (n : Nat) (ss : List Sc.St) (e : Ending) (w' : World) : Prop := ∃ u, e = .returned (.tuple #[u, .nilIface]) ∧ StatesAt w' n u ss ∧ Below w.heap.size w w'
/-- what was played so far, in memory: the states' row lies from block q on, the last one in block b -/
structure Pl (w : World) (b q n : Nat) (l : Value) (ss : List Sc.St) (cur : Sc.St) (gs : List (Nat × Nat)) (gi gc : Nat) (W : World) : Prop where
  len : gs.length = ss.length
  own : W.ownsRow q 52 2 l ss.length (gs.flatMap (stCells n))
  at_ : ∀ (j : Nat) (g : Nat × Nat) (s : Sc.St), gs[j]? = some g → ss[j]? = some s → StAt W g.1 g.2 s
  bel : Below w.heap.size w W
  var : W.heap[b]? = some (.cells #[slV gi n, slV gc n] 52 (0, 0))
  st : StAt W gi gc cur
theorem tag_ne {W : World} {a b : Nat} {ca cb : Array Value} {ta tb : TypeId} {fa fb : Nat × Nat} (ha : W.heap[a]? = some (.cells ca ta fa)) (hb : W.heap[b]? = some (.cells cb tb fb)) (h : ta ≠ tb) : a ≠ b := by
  intro e
  subst e
  rw [ha] at hb
  simp only [Option.some.injEq, Obj.cells.injEq] at hb
  exact h hb.2.1
theorem StAt.moved {W W' : World} {gi gc : Nat} {s : Sc.St} (h : StAt W gi gc s) (h1 : W'.heap[gi]? = W.heap[gi]?) (h2 : W'.heap[gc]? = W.heap[gc]?) : StAt W' gi gc s := ⟨h1.trans h.bi, h2.trans h.bc⟩
theorem Pl.states {w : World} {b q n : Nat} {l : Value} {ss : List Sc.St} {cur : Sc.St} {gs : List (Nat × Nat)} {gi gc : Nat} {W : World} (h : Pl w b q n l ss cur gs gi gc W) : StatesAt W n l ss := by
  rcases h.own.2 with ⟨rfl, h0⟩ | ⟨g, cap, cu, rfl, _, hcur, hcap, _, _, htk⟩
  · exact .inl ⟨List.length_eq_zero_iff.1 h0, _, _, rfl⟩
  · refine .inr ⟨g, cap, rfl, hcap, fun i s hi => ?_⟩
    have hil : i < gs.length := by rw [h.len]; exact (List.getElem?_eq_some_iff.1 hi).1
    have hgi : gs[i]? = some gs[i] := List.getElem?_eq_getElem hil
    have hc := fun j hj => flat2 (stCells n) (fun _ => rfl) gs i gs[i] hgi j hj
    exact ⟨gs[i].1, gs[i].2, row_cell hcur htk (hc 0 (by omega)), row_cell hcur htk (hc 1 (by omega)), h.at_ i _ s hgi hi⟩
/-- one scan more -/
theorem Pl.next {w : World} {b q n : Nat} {l : Value} {ss : List Sc.St} {cur nxt : Sc.St} {gs : List (Nat × Nat)} {gi gc gi1 gc1 : Nat} {W W1 W2 WC : World} (h : Pl w b q n l ss cur gs gi gc W) (hwb : w.heap.size ≤ b) (hbq : b < q)
    (hb1 : Below W.heap.size W W1) (hs1 : StAt W1 gi1 gc1 nxt) (hg1 : W.heap.size ≤ gi1) (hg2 : W.heap.size ≤ gc1) (hW2 : W2 = (W1.setCell ⟨b, 0, none⟩ (slV gi1 n)).setCell ⟨b, 1, none⟩ (slV gc1 n)) (o : Obj) (g cap : Nat)
    (hown : WC.ownsRow q 52 2 (.slice (some ⟨g, 0, none⟩) (ss.length + 1) cap) (ss.length + 1) (gs.flatMap (stCells n) ++ stCells n (gi1, gc1))) (hgrow : (W2.alloc o).grownBy WC l.ownBlock) :
    Pl w b q n (.slice (some ⟨g, 0, none⟩) (ss.length + 1) cap) (ss ++ [nxt]) nxt (gs ++ [(gi1, gc1)]) gi1 gc1 WC := by
  have hbW : b < W.heap.size := (Array.getElem?_eq_some_iff.1 h.var).1
  have hz1 := hb1.size
  have hv1 : W1.heap[b]? = some (.cells #[slV gi n, slV gc n] 52 (0, 0)) := (hb1.block b hbW).trans h.var
  have h2b : W2.heap[b]? = some (.cells #[slV gi1 n, slV gc1 n] 52 (0, 0)) := by rw [hW2]; simp [World.setCell, Array.getElem?_modify, hv1]
  have h2o : ∀ k, k ≠ b → W2.heap[k]? = W1.heap[k]? := fun k hk => by rw [hW2, Below.heap_setCell _ _ _ _ (fun e => hk e), Below.heap_setCell _ _ _ _ (fun e => hk e)]
  have h2s : W2.heap.size = W1.heap.size := by rw [hW2]; simp [World.setCell]
  have hlb : ∀ k, l.ownBlock = some k → q ≤ k ∧ k < W.heap.size := fun k e => h.own.lt k e
  have hC : ∀ k, k < W2.heap.size → some k ≠ l.ownBlock → WC.heap[k]? = W2.heap[k]? := fun k hk hr => (hgrow.block k (by simp; omega) hr).trans (Below.heap_alloc _ _ _ hk)
  have hne : ∀ (k : Nat) (c : Array Value) (t : TypeId), W.heap[k]? = some (.cells c t (0, 0)) → t ≠ 52 → some k ≠ l.ownBlock := fun k c t hk ht e => by
    obtain ⟨c', hc'⟩ := own_tag h.own k e.symm
    exact tag_ne hk hc' ht rfl
  have hst : ∀ (a c : Nat) (s : Sc.St), StAt W a c s → StAt WC a c s := fun a c s hs => by
    have ha := hs.lt.1
    have hc := hs.lt.2
    refine hs.moved ?_ ?_
    · rw [hC a (by omega) (hne a _ _ hs.bi (by decide)), h2o a (tag_ne hs.bi h.var (by decide)), hb1.block a ha]
    · rw [hC c (by omega) (hne c _ _ hs.bc (by decide)), h2o c (tag_ne hs.bc h.var (by decide)), hb1.block c hc]
  have hs1l := hs1.lt
  have hnew : StAt WC gi1 gc1 nxt := by
    refine hs1.moved ?_ ?_
    · rw [hC gi1 (by omega) (fun e => by have := hlb _ e.symm; omega), h2o gi1 (by omega)]
    · rw [hC gc1 (by omega) (fun e => by have := hlb _ e.symm; omega), h2o gc1 (by omega)]
  refine ⟨by simp [h.len], ?_, ?_, ?_, ?_, hnew⟩
  · rw [List.length_append, List.flatMap_append]; simpa using hown
  · intro j x s hj hs
    by_cases hjl : j < ss.length
    · rw [List.getElem?_append_left (by rw [h.len]; exact hjl)] at hj
      rw [List.getElem?_append_left hjl] at hs
      exact hst _ _ _ (h.at_ j x s hj hs)
    · have hj2 : j < (ss ++ [nxt]).length := (List.getElem?_eq_some_iff.1 hs).1
      have : j = ss.length := by simp at hj2; omega
      subst this
      rw [List.getElem?_append_right (by rw [h.len]; exact Nat.le_refl _), h.len] at hj
      rw [List.getElem?_append_right (Nat.le_refl _)] at hs
      simp only [Nat.sub_self, List.getElem?_cons_zero, Option.some.injEq] at hj hs
      subst hj; subst hs
      exact hnew
  · have hzw := h.bel.size
    refine ⟨hgrow.os.trans (by rw [hW2]; exact hb1.os.trans h.bel.os), hgrow.tape.trans (by rw [hW2]; exact hb1.tape.trans h.bel.tape), hgrow.output.trans (by rw [hW2]; exact hb1.output.trans h.bel.output), by have := hgrow.size; simp at this; omega, fun k hk => ?_⟩
    rw [hC k (by omega) (fun e => by have := hlb _ e.symm; omega), h2o k (by omega), hb1.block k (by omega)]
    exact h.bel.block k hk
  · rw [hC b (by omega) (fun e => by have := hlb _ e.symm; omega)]; exact h2b
end
section
open Go.RowKit
set_option maxHeartbeats 8000000 in
set_option maxRecDepth 100000 in
theorem Play_any (p : Ld.Prg) (v iv : Value) (ins : List (List Bool)) (w : World) (h : IsPrg w p v) (hck : Ld.check p = none) (hin : InsAt w iv ins) (hl : ins.length ≤ 1000) (hlen : ∀ i, i ∈ ins → i.length = (Ld.kindL p.names 1).length) :
    Calls Tryz.prog 9 #[v, iv] w (Played w p.names.length (Sc.plays p ins ins.length)) := by
  have HPR := hide h
  have HCK := hide hck
  have HIN := hide hin
  have HLN := hide hlen
  have h12 := (Ld.check_names p hck).1
  obtain ⟨nv, rv, rfl, hn, hr⟩ := h
  obtain ⟨na, nc, rfl, _⟩ := hn.slice
  obtain ⟨ra, rc, rfl, _⟩ := hr.slice
  obtain ⟨ia, ic, rfl⟩ := hin.slice
  obtain ⟨i0, hi0, hy0, hy1, hy2⟩ := info_parts Tryz.infoState
  obtain ⟨n, hnn⟩ : ∃ n, n = p.names.length := ⟨_, rfl⟩
  obtain ⟨m, hmm⟩ : ∃ m, m = p.rungs.length := ⟨_, rfl⟩
  obtain ⟨c, hcc⟩ : ∃ c, c = ins.length := ⟨_, rfl⟩
  have HN := hide hnn
  have HM := hide hmm
  have HC := hide hcc
  rw [← hnn] at HPR h12 ⊢
  rw [← hmm] at HPR ⊢
  rw [← hcc] at HIN hl ⊢
  clear hn hr hnn hmm hcc hck hin hlen
  obtain ⟨wA, hwA⟩ : ∃ wA, wA = w.alloc (.cells #[.slice na n nc, .slice ra m rc] 26) := ⟨_, rfl⟩
  have hbA : Below w.heap.size w wA := by rw [hwA]; exact (Below.refl _ _).alloc (Nat.le_refl _) _
  have hsA : wA.heap.size = w.heap.size + 1 := by rw [hwA]; simp
  have hA : wA.heap[w.heap.size]? = some (.cells #[.slice na n nc, .slice ra m rc] 26 (0, 0)) := by rw [hwA]; exact heap_alloc_new _ _
  have HBX : Hid (∀ (W : World), Below (w.heap.size + 1) wA W → W.cell? ⟨w.heap.size, 0, none⟩ = some (.slice na n nc) ∧ W.cell? ⟨w.heap.size, 1, none⟩ = some (.slice ra m rc) ∧ Below w.heap.size w W) := by
    intro W hW
    have e0 := (hW.block w.heap.size (by omega)).trans hA
    exact ⟨by rw [Lib.cell_of_heap e0]; rfl, by rw [Lib.cell_of_heap e0]; rfl, hbA.trans (hW.mono (by omega))⟩
  have HKC := hide (Check_any p _ wA (HPR.out.below hbA))
  rw [HCK.out, hwA] at HKC
  have HWA := hide hwA
  have HBA := hide hbA
  clear hwA hbA hA
  go_enter Tryz.func9, Tryz.ntmps9
  go_wp2_with fail
  refine HKC.out.mono ?_
  rintro e w1 ⟨er, rfl, her, hb1⟩
  obtain rfl : er = .nilIface := her
  rw [← HWA.out] at hb1
  have HB1 := hide hb1
  obtain ⟨c0, c1, hw1⟩ := HBX.out w1 (hsA ▸ hb1)
  have hz1' := hb1.size
  have HST := hide (Start_any p _ w1 (HPR.out.below hw1) (by rw [← HN.out]; exact h12))
  have HW1 := hide hw1
  clear hb1 HKC hw1
  go_wp2_with fail
  refine HST.out.mono ?_
  rintro e w2 ⟨gi, gc, rfl, hst, hgi, hgc, hb2⟩
  have hln : (Sc.start p).is.length = n := by rw [HN.out]; simp [Sc.start]
  rw [hln]
  unfold stV
  obtain ⟨w3, hw3⟩ : ∃ w3, w3 = w2.alloc (.cells #[.slice (some ⟨gi, 0, none⟩) n n, .slice (some ⟨gc, 0, none⟩) n n] 52) := ⟨_, rfl⟩
  have HW3 := hide hw3
  have hz2 := hb2.size
  have hs3 : w3.heap.size = w2.heap.size + 1 := by rw [hw3]; simp
  have hb23 : Below w2.heap.size w2 w3 := by rw [hw3]; exact (Below.refl _ _).alloc (Nat.le_refl _) _
  have hb13 : Below w1.heap.size w1 w3 := hb2.trans (hb23.mono hb2.size)
  have HP0 : Hid (Pl w w2.heap.size (w2.heap.size + 1) n (.slice none 0 0) (Sc.plays p ins 0) (Sc.after p (ins.take 0)) [] gi gc w3) := by
    refine ⟨rfl, World.ownsRow_nil _ _ _ _, fun j g s h => by simp at h, HW1.out.trans (hb13.mono HW1.out.size), ?_, hst.below hb23⟩
    rw [hw3]; exact heap_alloc_new _ _
  have HB3 : Hid (Below (w.heap.size + 1) wA w3) := (hsA ▸ HB1.out).trans (hb13.mono (by omega))
  clear hst hgi hgc hb2 hb23 hb13 HST hln
  go_wp2_with fail
  rw [← hw3]
  clear hw3
  go_loopw [8, 25] (fun l i wr => ∃ k : Nat, k ≤ c ∧ i = .int .i64 (k : Int) ∧ (∃ a cp, l = .slice a k cp) ∧ Hid (∃ gs gi gc, Pl w w2.heap.size (w2.heap.size + 1) n l (Sc.plays p ins k) (Sc.after p (ins.take k)) gs gi gc wr) ∧ Hid (Below (w.heap.size + 1) wA wr) ∧ w2.heap.size + 1 ≤ wr.heap.size) (fun _ i _ => c - (intOf i).toNat)
  case atStart => exact ⟨0, Nat.zero_le _, rfl, ⟨_, _, rfl⟩, ⟨[], gi, gc, HP0.out⟩, HB3.out, by omega⟩
  case round =>
    obtain ⟨k, hk, rfl, ⟨la, lc, rfl⟩, HI, HBR, hszr⟩ := hrel
    obtain ⟨gs, gi3, gc3, hpl⟩ := HI.out
    obtain ⟨d0, d1, hbw⟩ := HBX.out wr HBR.out
    have HPL := hide hpl
    have HBW := hide hbw
    clear HI HP0 c0 c1
    by_cases hlt : k < c
    · have hkl : k < ins.length := by rw [← HC.out]; exact hlt
      obtain ⟨g, hia, hca, u, hcu, hbu⟩ : ∃ g, ia = some ⟨g, 0, none⟩ ∧ c ≤ ic ∧ ∃ u, wr.cell? ⟨g, k, none⟩ = some u ∧ Bools wr u ins[k] := by
        rcases HIN.out.below HBW.out with ⟨h0, _⟩ | ⟨g, cap, h1, h2, h3⟩
        · rw [h0] at hkl; simp at hkl
        · simp only [Value.slice.injEq] at h1
          exact ⟨g, h1.1, by rw [h1.2.2, h1.2.1]; exact h2, h3 k _ (List.getElem?_eq_getElem hkl)⟩
      subst hia
      have hbd := Sc.after_bd p HCK.out (ins.take k) (fun i hi => HLN.out i (List.mem_of_mem_take hi))
      have HSTEP := hide (step_any p _ u gi3 gc3 (Sc.after p (ins.take k)) ins[k] wr (HPR.out.below HBW.out) HCK.out hpl.st hbd.li hbd.lc (hbd.small HCK.out) hbu (HLN.out _ (List.getElem_mem hkl)))
      rw [← HN.out] at HSTEP
      have HPS := hide (Sc.plays_succ p ins k hkl)
      have HAF : Hid (Sc.after p (ins.take (k + 1)) = Sc.step p (Sc.after p (ins.take k)) ins[k]) := by show _ = _; rw [List.take_succ_eq_append_getElem hkl, Sc.after_snoc]
      have HPK := hide (Sc.plays_len p ins k)
      have v0 : wr.cell? ⟨w2.heap.size, 0, none⟩ = some (.slice (some ⟨gi3, 0, none⟩) n n) := by rw [Lib.cell_of_heap hpl.var]; rfl
      have v1 : wr.cell? ⟨w2.heap.size, 1, none⟩ = some (.slice (some ⟨gc3, 0, none⟩) n n) := by rw [Lib.cell_of_heap hpl.var]; rfl
      obtain ⟨ua, uc, rfl, _, _⟩ := hbu
      clear hpl hbw hbd
      generalize ins[k] = inp at *
      generalize Sc.step p (Sc.after p (ins.take k)) inp = nxt at *
      unfold stV at HSTEP
      go_wp2_with fail
      refine HSTEP.out.mono ?_
      rintro e w5 ⟨gi1, gc1, rfl, hst1, hg1, hg2, hb5⟩
      have hvr : w5.heap[w2.heap.size]? = some (.cells #[slV gi3 n, slV gc3 n] 52 (0, 0)) := (hb5.block _ (by omega)).trans HPL.out.var
      have y0 : w5.cell? ⟨w2.heap.size, 0, none⟩ = some (.slice (some ⟨gi3, 0, none⟩) n n) := by rw [Lib.cell_of_heap hvr]; rfl
      have y1 : w5.cell? ⟨w2.heap.size, 1, none⟩ = some (.slice (some ⟨gc3, 0, none⟩) n n) := by rw [Lib.cell_of_heap hvr]; rfl
      have y2 : w5.frozen? ⟨w2.heap.size, 0, none⟩ = false := Lib.frozen_of_heap hvr 0
      have y3 : w5.frozen? ⟨w2.heap.size, 1, none⟩ = false := Lib.frozen_of_heap hvr 1
      have hz5 := hb5.size
      obtain ⟨w6, hw6⟩ : ∃ w6, w6 = (w5.setCell ⟨w2.heap.size, 0, none⟩ (slV gi1 n)).setCell ⟨w2.heap.size, 1, none⟩ (slV gc1 n) := ⟨_, rfl⟩
      have hs6 : w6.heap.size = w5.heap.size := by rw [hw6]; simp [World.setCell]
      have HOWN : Hid (∀ o, (w6.alloc o).ownsRow (w2.heap.size + 1) 52 2 (.slice la k lc) k (gs.flatMap (stCells n))) := fun o => by
        have h1 := own_below HPL.out.own hb5
        rw [HPK.out] at h1
        exact (own_moved h1 (fun j hj _ => by rw [hw6, Below.heap_setCell _ _ _ _ (fun e => by simp at e; omega), Below.heap_setCell _ _ _ _ (fun e => by simp at e; omega)])).alloc o
      have HONE : Hid (∀ u ∈ stCells n (gi1, gc1), u.oneCell' = true) := by
        intro u hu
        simp only [stCells, List.mem_cons, List.not_mem_nil, or_false] at hu
        rcases hu with rfl | rfl <;> rfl
      have HFIN : Hid (∀ (o : Obj) (g cap : Nat) (wC : World), wC.ownsRow (w2.heap.size + 1) 52 2 (.slice (some ⟨g, 0, none⟩) (k + 1) cap) (k + 1) (gs.flatMap (stCells n) ++ stCells n (gi1, gc1)) → (w6.alloc o).grownBy wC (Value.slice la k lc).ownBlock →
          Pl w w2.heap.size (w2.heap.size + 1) n (.slice (some ⟨g, 0, none⟩) (k + 1) cap) (Sc.plays p ins (k + 1)) (Sc.after p (ins.take (k + 1))) (gs ++ [(gi1, gc1)]) gi1 gc1 wC ∧ Below (w.heap.size + 1) wA wC ∧ w2.heap.size + 1 ≤ wC.heap.size) := by
        intro o g cap wC hown hgrow
        have hnx := HPL.out.next (by omega) (by omega) hb5 hst1 hg1 hg2 hw6 o g cap (by rw [HPK.out]; exact hown) hgrow
        rw [HPK.out, ← HPS.out, ← HAF.out] at hnx
        have hgs := hgrow.size
        rw [show (w6.alloc o).heap.size = w5.heap.size + 1 by simp [hs6]] at hgs
        refine ⟨hnx, ⟨hnx.bel.os.trans ?_, hnx.bel.tape.trans ?_, hnx.bel.output.trans ?_, by omega, fun j hj => ?_⟩, by omega⟩
        · rw [HWA.out]; rfl
        · rw [HWA.out]; rfl
        · rw [HWA.out]; rfl
        · rw [hgrow.block j (by simp; omega) (fun e => by have := (HPL.out.own.lt j e.symm).1; omega), Below.heap_alloc _ _ _ (by omega), hw6, Below.heap_setCell _ _ _ _ (fun e => by simp at e; omega), Below.heap_setCell _ _ _ _ (fun e => by simp at e; omega), hb5.block j (by omega)]
          exact HBR.out.block j hj
      have HNEW : Hid (∀ o, (w6.alloc o).heap[w5.heap.size]? = some o) := fun o => by rw [← hs6]; exact heap_alloc_new _ _
      rw [hw6] at HOWN HFIN HNEW
      have HW6 := hide hw6
      unfold stV
      clear hw6 HSTEP hb5 hst1 hvr HPL
      go_wp2_with (at_builtin; refine wpList_append_lies _ rfl (.tmp 39) (.tmp 41) 36 rfl (w2.heap.size + 1) 52 i0 _ 2 48 Tryz.underlying36 hi0 hy0 hy1 hy2 rfl (by decide) (.slice la k lc) k (gs.flatMap (stCells n)) rfl (HOWN.out _) ⟨w5.heap.size, 0, none⟩ 1 1 (stCells n (gi1, gc1)) rfl rfl (World.news_of_block (HNEW.out _)) HONE.out (by decide) (by unfold maxLen; omega) (by omega) (by simp; omega) (w5.heap.size + 1) (by simp) ?_; intro g2 cap2 wC hown hgrow hat hltg; obtain ⟨hpC, hbC, hsC⟩ := HFIN.out _ g2 cap2 wC hown hgrow; have HPC := hide hpC; have HBC := hide hbC; clear hpC hbC hown hgrow hat)
      go_roundw
      case rel => exact ⟨k + 1, by omega, by go_num, ⟨_, _, rfl⟩, ⟨_, _, _, HPC.out⟩, HBC.out, hsC⟩
      case measure => simp [intOf]; omega
    · have hkc : k = c := by omega
      subst hkc
      clear HPR
      go_wp2_with fail
      refine bodyPost_ret_by (v := .tuple #[.slice la k lc, .nilIface]) ?_ rfl ?_
      · simp [results, Tryz.results9, go_sem]
      · exact ⟨_, rfl, HPL.out.states, HBW.out⟩
end
end Go.Proofs.YtkpfahbodlfpiaaGreatDoor
