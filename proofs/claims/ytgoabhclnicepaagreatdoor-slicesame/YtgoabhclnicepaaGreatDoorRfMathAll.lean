/-
  Plain facts: one program and its text; what is read has nothing wrong; how long a read program's parts are. Plain mathematics of chapter 3: programs on their way. Nothing of the program is named here. Plain mathematics: along a play counts stay within their bounds, timers and counters are true just where they are there, and inputs are what came. The document's states by names, in plain words: what its Step does is what package scan's does.
-/
import Derived.Test.YtgoabhclnicepaaGreatDoorLdBack
import Derived.ProofKit
import Derived.Test.YtgoabhclnicepaaGreatDoorRtBoundAll
namespace Go.Proofs.YtgoabhclnicepaaGreatDoor
section
namespace Ld
def litA : Ex := ⟨2, [97], []⟩
def lit : Prg := ⟨[⟨[97], 1, 0⟩, ⟨[109], 2, 0⟩], [⟨2, [109], some litA⟩]⟩
theorem checked_check (r : Rdg) (p : Prg) (h : checked r = .inr p) : check p = none := by
  unfold checked at h
  split at h
  · rename_i h1; cases h; exact h1
  · cases h
  · cases h
/-- what is read has nothing wrong -/
theorem parse_check (l : List UInt8) (p : Prg) (h : parse l = .inr p) : check p = none := by
  unfold parse at h
  split at h
  · cases h
  · split at h
    · cases h
    · exact checked_check _ p h
theorem litA_text : litA.text = [97] := by simp [litA, Ex.text]
theorem litA_parse : Ex.parse [97] = .inr litA := by kernel_rfl
theorem litA_named : litA.named true = [[97]] := by simp [litA, Ex.named]
theorem lit_check : check lit = none := by
  have h0 : number lit.names [97] = 0 := by kernel_rfl
  have h1 : number lit.names [109] = 1 := by kernel_rfl
  have n1 : Nm.name [97] = true := by kernel_rfl
  have n2 : Nm.name [109] = true := by kernel_rfl
  have a0 : nameAt lit.names 0 = 0 := by rw [nameAt_at _ _ (by decide)]; show wrongN lit.names 0 ⟨[97], 1, 0⟩ = 0; simp [wrongN, n1, h0, mayCount, counted]
  have a1 : nameAt lit.names 1 = 0 := by rw [nameAt_at _ _ (by decide)]; show wrongN lit.names 1 ⟨[109], 2, 0⟩ = 0; simp [wrongN, n2, h1, mayCount, counted]
  have hk : known lit.names litA = true := by simp [known, litA_named, h0]
  have hka : kindAt lit.names 1 = 2 := rfl
  have b0 : rungAt lit 0 = 0 := by rw [rungAt_at _ _ (by decide)]; show wrongR lit.names ⟨2, [109], some litA⟩ = 0; simp [wrongR, h1, hka, kindOf, hk]
  have hb : bad (nameAt lit.names) 2 = none := by simp [bad, a0, a1]
  have hc : bad (rungAt lit) 1 = none := by simp [bad, b0]
  have e1 : lit.names.length = 2 := rfl
  have e2 : lit.rungs.length = 1 := rfl
  simp [check, e1, e2, hb, hc]
theorem lit_text : text lit = [105, 110, 112, 117, 116, 32, 97, 10, 99, 111, 105, 108, 32, 109, 10, 115, 101, 116, 32, 109, 32, 61, 32, 97, 10] := by
  rw [text, if_pos lit_check]
  simp [lit, linesT, nameT, rungT, headT, condT, litA_text, counted, nameW, rungW, ended]
theorem lit_parse : parse [105, 110, 112, 117, 116, 32, 97, 10, 99, 111, 105, 108, 32, 109, 10, 115, 101, 116, 32, 109, 32, 61, 32, 97, 10] = .inr lit := by
  have h := parse_text lit lit_check (fun r hr x hx => ?_) (by rw [lit_text]; decide) (fun r hr => ?_)
  · rw [lit_text] at h; exact h
  · simp only [lit, List.mem_singleton] at hr
    subst hr
    cases hx
    exact ⟨_, litA_parse⟩
  · simp only [lit, List.mem_singleton] at hr
    subst hr
    show litA.text.length ≤ _
    rw [litA_text]; decide
theorem lit_number : number lit.names [109] = 1 := by kernel_rfl
end Ld
end
section
namespace Sc
structure St where
  is : List Bool
  ct : List Int
def further (a most : Int) : Int := if a < most then a + 1 else most
def run (n : Nat) (most : Int) (says : Bool) (s : St) : St :=
  let c := if says then further (s.ct.getD n 0) most else 0
  ⟨s.is.set n (c == most), s.ct.set n c⟩
def count (n : Nat) (most : Int) (says : Bool) (s : St) : St :=
  let c := if says then further (s.ct.getD n 0) most else s.ct.getD n 0
  ⟨s.is.set n (c == most), s.ct.set n c⟩
def zero (n : Nat) (says : Bool) (s : St) : St := if says then ⟨s.is.set n false, s.ct.set n 0⟩ else s
/-- a rung of kind k does this to name n, whose count is most -/
def rung (k : Int) (n : Nat) (most : Int) (says : Bool) (s : St) : St :=
  if k = 1 then ⟨s.is.set n says, s.ct⟩
  else if k = 2 then ⟨s.is.set n (s.is.getD n false || says), s.ct⟩
  else if k = 3 then ⟨s.is.set n (s.is.getD n false && !says), s.ct⟩
  else if k = 4 then run n most says s
  else if k = 5 then count n most says s
  else if k = 6 then zero n says s
  else s
theorem rung_len (k : Int) (n : Nat) (most : Int) (says : Bool) (s : St) : (rung k n most says s).is.length = s.is.length ∧ (rung k n most says s).ct.length = s.ct.length := by
  unfold rung run count zero
  repeat' split
  all_goals simp
/-- what names are, told -/
def told (ns : List Ld.Nme) (l : List Bool) (s : List UInt8) : Bool := decide (0 ≤ Ld.number ns s) && l.getD (Ld.number ns s).toNat false
def doRung (ns : List Ld.Nme) (was : List Bool) (s : St) (r : Ld.Rng) : St :=
  match r.cond with
  | some x => if 0 ≤ Ld.number ns r.name then rung r.kind (Ld.number ns r.name).toNat ((ns.getD (Ld.number ns r.name).toNat ⟨[], 0, 0⟩).count) (x.eval (told ns s.is) (told ns was)) s else s
  | none => s
/-- inputs are read -/
def reads (l : List Nat) (inp : List Bool) (is : List Bool) : List Bool := (l.zip inp).foldl (fun acc p => acc.set p.1 p.2) is
def step (p : Ld.Prg) (s : St) (inp : List Bool) : St := p.rungs.foldl (doRung p.names s.is) ⟨reads (Ld.kindL p.names 1) inp s.is, s.ct⟩
def start (p : Ld.Prg) : St := ⟨List.replicate p.names.length false, List.replicate p.names.length 0⟩
end Sc
end
section
namespace Ld
theorem check_rungs (p : Prg) (h : check p = none) : ∀ r, r ∈ p.rungs → 1 ≤ r.kind ∧ r.kind ≤ 6 ∧ 0 ≤ number p.names r.name ∧ kindAt p.names (number p.names r.name) = kindOf r.kind ∧ ∃ x, r.cond = some x ∧ known p.names x = true := by
  unfold check at h
  by_cases hl : 12 < p.names.length ∨ 40 < p.rungs.length
  · rw [if_pos hl] at h; cases h
  rw [if_neg hl] at h
  cases hn : bad (nameAt p.names) p.names.length with
  | some r => rw [hn] at h; cases h
  | none =>
    rw [hn] at h
    simp only at h
    cases hr : bad (rungAt p) p.rungs.length with
    | some r => rw [hr] at h; cases h
    | none =>
      intro r hm
      obtain ⟨i, hi, rfl⟩ := List.getElem_of_mem hm
      have := bad_none _ _ hr i hi
      rw [rungAt_at _ _ hi, wrongR] at this
      by_cases h1 : p.rungs[i].kind < 1 ∨ 6 < p.rungs[i].kind
      · rw [if_pos h1] at this; cases this
      rw [if_neg h1] at this
      cases hc : p.rungs[i].cond with
      | none => rw [hc] at this; cases this
      | some x =>
        rw [hc] at this
        simp only at this
        by_cases h2 : number p.names p.rungs[i].name < 0
        · rw [if_pos h2] at this; cases this
        rw [if_neg h2] at this
        by_cases h3 : kindAt p.names (number p.names p.rungs[i].name) ≠ kindOf p.rungs[i].kind
        · rw [if_pos h3] at this; cases this
        rw [if_neg h3] at this
        by_cases h4 : known p.names x = true
        · exact ⟨by omega, by omega, by omega, Classical.not_not.1 h3, x, rfl, h4⟩
        · rw [if_neg h4] at this; cases this
theorem kindL_at (ns : List Nme) (k : Int) (i : Nat) (h : i ∈ kindL ns k) : ∃ hi : i < ns.length, ns[i].kind = k := by
  unfold kindL placesTo at h
  obtain ⟨h1, h2⟩ := List.mem_filter.1 h
  have hi := List.mem_range.1 h1
  rw [List.getElem?_eq_getElem hi] at h2
  exact ⟨hi, by simpa using h2⟩
theorem kindL_nodup (ns : List Nme) (k : Int) : (kindL ns k).Nodup := by
  unfold kindL placesTo
  exact List.nodup_range.filter _
end Ld
namespace Sc
theorem getD_set {α : Type} (l : List α) (n : Nat) (v d : α) (j : Nat) : (l.set n v).getD j d = if j = n ∧ n < l.length then v else l.getD j d := by
  rw [List.getD_eq_getElem?_getD, List.getD_eq_getElem?_getD, List.getElem?_set]
  by_cases h : n = j
  · subst h
    by_cases h2 : n < l.length
    · simp [h2]
    · simp [h2]
  · rw [if_neg h, if_neg (fun e => h e.1.symm)]
/-- a state of a program is within its bounds -/
structure Bd (p : Ld.Prg) (s : St) : Prop where
  li : s.is.length = p.names.length
  lc : s.ct.length = p.names.length
  at_ : ∀ k (h : k < p.names.length), 0 ≤ s.ct.getD k 0 ∧ s.ct.getD k 0 ≤ p.names[k].count ∧ (3 ≤ p.names[k].kind → s.is.getD k false = (s.ct.getD k 0 == p.names[k].count))
theorem may (p : Ld.Prg) (h : Ld.check p = none) (k : Nat) (hk : k < p.names.length) : 1 ≤ p.names[k].kind ∧ p.names[k].kind ≤ 4 ∧ (3 ≤ p.names[k].kind → 1 ≤ p.names[k].count ∧ p.names[k].count ≤ 7) ∧ (p.names[k].kind < 3 → p.names[k].count = 0) := by
  obtain ⟨_, h1, h2, h3⟩ := (Ld.check_names p h).2.2.1 _ (List.getElem_mem hk)
  refine ⟨h1, h2, ?_, ?_⟩
  · intro h4
    have hc : Ld.counted p.names[k].kind = true := by unfold Ld.counted; simp; omega
    unfold Ld.mayCount at h3
    rw [if_pos hc] at h3
    simpa using h3
  · intro h4
    have hc : ¬ Ld.counted p.names[k].kind = true := by unfold Ld.counted; simp; omega
    unfold Ld.mayCount at h3
    rw [if_neg hc] at h3
    simpa using h3
theorem Bd.small {p : Ld.Prg} {s : St} (hb : Bd p s) (h : Ld.check p = none) : ∀ c, c ∈ s.ct → 0 ≤ c ∧ c ≤ 7 := by
  intro c hc
  obtain ⟨i, hi, rfl⟩ := List.getElem_of_mem hc
  have hi' : i < p.names.length := by rw [← hb.lc]; exact hi
  have h1 := hb.at_ i hi'
  obtain ⟨_, _, h3, h4⟩ := may p h i hi'
  have e : s.ct.getD i 0 = s.ct[i] := by simp [hi]
  rw [e] at h1
  refine ⟨h1.1, ?_⟩
  by_cases hk : 3 ≤ p.names[i].kind
  · have := (h3 hk).2; omega
  · have := h4 (by omega); omega
theorem start_bd (p : Ld.Prg) (h : Ld.check p = none) : Bd p (start p) := by
  refine ⟨by simp [start], by simp [start], fun k hk => ?_⟩
  obtain ⟨_, _, h3, h4⟩ := may p h k hk
  have e : (start p).ct.getD k 0 = 0 := by simp [start, hk]
  have e2 : (start p).is.getD k false = false := by simp [start, hk]
  rw [e, e2]
  refine ⟨by omega, ?_, ?_⟩
  · by_cases h5 : 3 ≤ p.names[k].kind
    · have := (h3 h5).1; omega
    · have := h4 (by omega); omega
  · intro h5
    have := (h3 h5).1
    have hne : ¬ (0 : Int) = p.names[k].count := by omega
    simpa using hne
theorem rung_other (k : Int) (hk : 1 ≤ k ∧ k ≤ 6) (n : Nat) (most : Int) (says : Bool) (s : St) (j : Nat) (e : ¬ j = n) : (rung k n most says s).is.getD j false = s.is.getD j false ∧ (rung k n most says s).ct.getD j 0 = s.ct.getD j 0 := by
  have h1 : ∀ v, (s.is.set n v).getD j false = s.is.getD j false := fun v => by rw [getD_set, if_neg (fun h => e h.1)]
  have h2 : ∀ v, (s.ct.set n v).getD j 0 = s.ct.getD j 0 := fun v => by rw [getD_set, if_neg (fun h => e h.1)]
  rcases (show k = 1 ∨ k = 2 ∨ k = 3 ∨ k = 4 ∨ k = 5 ∨ k = 6 by omega) with rfl | rfl | rfl | rfl | rfl | rfl
  · exact ⟨h1 _, rfl⟩
  · exact ⟨h1 _, rfl⟩
  · exact ⟨h1 _, rfl⟩
  · exact ⟨h1 _, h2 _⟩
  · exact ⟨h1 _, h2 _⟩
  · cases says with
    | false => exact ⟨rfl, rfl⟩
    | true => exact ⟨h1 _, h2 _⟩
/-- what a rung leaves: bounds, and the inputs as they were -/
theorem rung_bd (p : Ld.Prg) (h : Ld.check p = none) (k : Int) (hk : 1 ≤ k ∧ k ≤ 6) (n : Nat) (hn : n < p.names.length) (hkn : p.names[n].kind = Ld.kindOf k) (says : Bool) (s : St) (hb : Bd p s) :
    Bd p (rung k n p.names[n].count says s) ∧ ∀ j (hj : j < p.names.length), p.names[j].kind = 1 → (rung k n p.names[n].count says s).is.getD j false = s.is.getD j false := by
  obtain ⟨l1, l2⟩ := rung_len k n p.names[n].count says s
  have hli := hb.li
  have hlc := hb.lc
  obtain ⟨_, _, h3, h4⟩ := may p h n hn
  have hcn := hb.at_ n hn
  have key : ∀ j (hj : j < p.names.length), (0 ≤ (rung k n p.names[n].count says s).ct.getD j 0 ∧ (rung k n p.names[n].count says s).ct.getD j 0 ≤ p.names[j].count ∧ (3 ≤ p.names[j].kind → (rung k n p.names[n].count says s).is.getD j false = ((rung k n p.names[n].count says s).ct.getD j 0 == p.names[j].count))) ∧ (p.names[j].kind = 1 → (rung k n p.names[n].count says s).is.getD j false = s.is.getD j false) := by
    intro j hj
    by_cases e : j = n
    · subst e
      have hni : j < s.is.length := by omega
      have hnc : j < s.ct.length := by omega
      have hf : 0 ≤ further (s.ct.getD j 0) p.names[j].count ∧ further (s.ct.getD j 0) p.names[j].count ≤ p.names[j].count := by unfold further; split <;> omega
      rcases (show k = 1 ∨ k = 2 ∨ k = 3 ∨ k = 4 ∨ k = 5 ∨ k = 6 by omega) with rfl | rfl | rfl | rfl | rfl | rfl
      · have hk2 : p.names[j].kind = 2 := hkn
        exact ⟨⟨hcn.1, hcn.2.1, fun h5 => absurd h5 (by omega)⟩, fun h5 => absurd h5 (by omega)⟩
      · have hk2 : p.names[j].kind = 2 := hkn
        exact ⟨⟨hcn.1, hcn.2.1, fun h5 => absurd h5 (by omega)⟩, fun h5 => absurd h5 (by omega)⟩
      · have hk2 : p.names[j].kind = 2 := hkn
        exact ⟨⟨hcn.1, hcn.2.1, fun h5 => absurd h5 (by omega)⟩, fun h5 => absurd h5 (by omega)⟩
      · have hk2 : p.names[j].kind = 3 := hkn
        have h6 := (h3 (by omega)).1
        refine ⟨?_, fun h5 => absurd h5 (by omega)⟩
        show 0 ≤ (run j p.names[j].count says s).ct.getD j 0 ∧ (run j p.names[j].count says s).ct.getD j 0 ≤ p.names[j].count ∧ (3 ≤ p.names[j].kind → (run j p.names[j].count says s).is.getD j false = ((run j p.names[j].count says s).ct.getD j 0 == p.names[j].count))
        unfold run
        simp only [getD_set, hni, hnc, and_self, if_true]
        refine ⟨?_, ?_, fun _ => trivial⟩
        · split <;> omega
        · split <;> omega
      · have hk2 : p.names[j].kind = 4 := hkn
        refine ⟨?_, fun h5 => absurd h5 (by omega)⟩
        show 0 ≤ (count j p.names[j].count says s).ct.getD j 0 ∧ (count j p.names[j].count says s).ct.getD j 0 ≤ p.names[j].count ∧ (3 ≤ p.names[j].kind → (count j p.names[j].count says s).is.getD j false = ((count j p.names[j].count says s).ct.getD j 0 == p.names[j].count))
        unfold count
        simp only [getD_set, hni, hnc, and_self, if_true]
        refine ⟨?_, ?_, fun _ => trivial⟩
        · split <;> omega
        · split <;> omega
      · have hk2 : p.names[j].kind = 4 := hkn
        have h6 := (h3 (by omega)).1
        refine ⟨?_, fun h5 => absurd h5 (by omega)⟩
        show 0 ≤ (zero j says s).ct.getD j 0 ∧ (zero j says s).ct.getD j 0 ≤ p.names[j].count ∧ (3 ≤ p.names[j].kind → (zero j says s).is.getD j false = ((zero j says s).ct.getD j 0 == p.names[j].count))
        unfold zero
        cases says with
        | false => exact hcn
        | true =>
          simp only [getD_set, hni, hnc, and_self, if_true]
          refine ⟨by omega, by omega, fun _ => ?_⟩
          have hne : ¬ (0 : Int) = p.names[j].count := by omega
          simpa using hne
    · obtain ⟨e1, e2⟩ := rung_other k hk n p.names[n].count says s j e
      rw [e1, e2]
      exact ⟨hb.at_ j hj, fun _ => rfl⟩
  exact ⟨⟨by omega, by omega, fun j hj => (key j hj).1⟩, fun j hj => (key j hj).2⟩
theorem doRung_bd (p : Ld.Prg) (h : Ld.check p = none) (was : List Bool) (r : Ld.Rng) (hr : r ∈ p.rungs) (s : St) (hb : Bd p s) :
    Bd p (doRung p.names was s r) ∧ ∀ j (hj : j < p.names.length), p.names[j].kind = 1 → (doRung p.names was s r).is.getD j false = s.is.getD j false := by
  obtain ⟨h1, h2, h3, h4, x, h5, _⟩ := Ld.check_rungs p h r hr
  unfold doRung
  rw [h5]
  simp only
  rw [if_pos h3]
  rcases Ld.number_cases p.names r.name with ⟨h6, _⟩ | ⟨n, hn, h6, _⟩
  · omega
  · rw [h6] at h4 ⊢
    have e1 : ((n : Int)).toNat = n := by omega
    have hk : p.names[n].kind = Ld.kindOf r.kind := by
      rw [← h4, Ld.kindAt, e1, List.getElem?_eq_getElem hn]
    have e2 : (p.names.getD n ⟨[], 0, 0⟩).count = p.names[n].count := by simp [hn]
    rw [e1, e2]
    exact rung_bd p h r.kind ⟨h1, h2⟩ n hn hk _ s hb
theorem fold_bd (p : Ld.Prg) (h : Ld.check p = none) (was : List Bool) : ∀ (rs : List Ld.Rng), (∀ r, r ∈ rs → r ∈ p.rungs) → ∀ s, Bd p s →
    Bd p (rs.foldl (doRung p.names was) s) ∧ ∀ j (hj : j < p.names.length), p.names[j].kind = 1 → (rs.foldl (doRung p.names was) s).is.getD j false = s.is.getD j false
  | [], _, s, hb => ⟨hb, fun _ _ _ => rfl⟩
  | r :: rs, hrs, s, hb => by
    obtain ⟨h1, h2⟩ := doRung_bd p h was r (hrs r (by simp)) s hb
    obtain ⟨h3, h4⟩ := fold_bd p h was rs (fun r hr => hrs r (by simp [hr])) _ h1
    exact ⟨h3, fun j hj hk => (h4 j hj hk).trans (h2 j hj hk)⟩
theorem reads_len (l : List Nat) (inp is : List Bool) : (reads l inp is).length = is.length := by
  have key : ∀ (ps : List (Nat × Bool)) (is : List Bool), (ps.foldl (fun acc p => acc.set p.1 p.2) is).length = is.length := by
    intro ps
    induction ps with
    | nil => intro is; rfl
    | cons a r ih => intro is; rw [List.foldl_cons, ih]; simp
  exact key _ _
theorem reads_other (l : List Nat) (inp is : List Bool) (j : Nat) (hj : j ∉ l) : (reads l inp is).getD j false = is.getD j false := by
  have key : ∀ (ps : List (Nat × Bool)) (is : List Bool), (∀ q, q ∈ ps → q.1 ≠ j) → (ps.foldl (fun acc p => acc.set p.1 p.2) is).getD j false = is.getD j false := by
    intro ps
    induction ps with
    | nil => intro is _; rfl
    | cons a r ih =>
      intro is hq
      rw [List.foldl_cons, ih _ (fun q hq2 => hq q (by simp [hq2])), getD_set, if_neg]
      intro e
      exact hq a (by simp) e.1.symm
  exact key _ _ (fun q hq e => hj (by rw [← e]; exact (List.of_mem_zip hq).1))
theorem reads_at : ∀ (l : List Nat) (inp is : List Bool), l.Nodup → inp.length = l.length → (∀ j, j ∈ l → j < is.length) → ∀ k (hk : k < l.length), (reads l inp is).getD l[k] false = inp.getD k false
  | [], _, _, _, _, _, k, hk => by simp at hk
  | a :: l, [], _, _, hl, _, _, _ => by simp at hl
  | a :: l, b :: inp, is, hnd, hl, hlt, k, hk => by
    have e : reads (a :: l) (b :: inp) is = reads l inp (is.set a b) := rfl
    rw [e]
    have hnd' := List.nodup_cons.1 hnd
    cases k with
    | zero =>
      show (reads l inp (is.set a b)).getD a false = b
      rw [reads_other l inp _ a hnd'.1, getD_set, if_pos ⟨rfl, hlt a (by simp)⟩]
    | succ k =>
      have := reads_at l inp (is.set a b) hnd'.2 (by simpa using hl) (fun j hj => by rw [List.length_set]; exact hlt j (by simp [hj])) k (by simpa using hk)
      simpa using this
theorem step_bd (p : Ld.Prg) (h : Ld.check p = none) (s : St) (inp : List Bool) (hb : Bd p s) (hl : inp.length = (Ld.kindL p.names 1).length) :
    Bd p (step p s inp) ∧ ∀ k (hk : k < (Ld.kindL p.names 1).length), (step p s inp).is.getD (Ld.kindL p.names 1)[k] false = inp.getD k false := by
  have hb0 : Bd p ⟨reads (Ld.kindL p.names 1) inp s.is, s.ct⟩ := by
    refine ⟨by simp only [reads_len]; exact hb.li, hb.lc, fun k hk => ?_⟩
    obtain ⟨h1, h2, h3⟩ := hb.at_ k hk
    refine ⟨h1, h2, fun h4 => ?_⟩
    simp only
    rw [reads_other _ _ _ _ (fun hm => by obtain ⟨hi, he⟩ := Ld.kindL_at _ _ _ hm; omega)]
    exact h3 h4
  obtain ⟨h1, h2⟩ := fold_bd p h s.is p.rungs (fun _ hr => hr) _ hb0
  refine ⟨h1, fun k hk => ?_⟩
  obtain ⟨hi, he⟩ := Ld.kindL_at _ _ _ (List.getElem_mem hk)
  refine (h2 _ hi he).trans ?_
  exact reads_at _ _ _ (Ld.kindL_nodup _ _) hl (fun j hj => by obtain ⟨hi, _⟩ := Ld.kindL_at _ _ _ hj; rw [hb.li]; exact hi) k hk
/-- the state behind some scans -/
def after (p : Ld.Prg) (ins : List (List Bool)) : St := ins.foldl (step p) (start p)
theorem after_bd (p : Ld.Prg) (h : Ld.check p = none) (ins : List (List Bool)) (hl : ∀ i, i ∈ ins → i.length = (Ld.kindL p.names 1).length) : Bd p (after p ins) := by
  have key : ∀ (ins : List (List Bool)) (s : St), Bd p s → (∀ i, i ∈ ins → i.length = (Ld.kindL p.names 1).length) → Bd p (ins.foldl (step p) s) := by
    intro ins
    induction ins with
    | nil => intro s hb _; exact hb
    | cons a r ih => intro s hb hl; exact ih _ (step_bd p h s a hb (hl a (by simp))).1 (fun i hi => hl i (by simp [hi]))
  exact key ins _ (start_bd p h) hl
theorem after_snoc (p : Ld.Prg) (ins : List (List Bool)) (a : List Bool) : after p (ins ++ [a]) = step p (after p ins) a := by
  unfold after; rw [List.foldl_append]; rfl
/-- the states behind each of the first k scans -/
def plays (p : Ld.Prg) (ins : List (List Bool)) (k : Nat) : List St := (List.range k).map fun j => after p (ins.take (j + 1))
theorem plays_succ (p : Ld.Prg) (ins : List (List Bool)) (k : Nat) (hk : k < ins.length) : plays p ins (k + 1) = plays p ins k ++ [step p (after p (ins.take k)) ins[k]] := by
  unfold plays
  rw [List.range_succ, List.map_append, List.map_singleton, List.take_succ_eq_append_getElem hk, after_snoc]
theorem plays_len (p : Ld.Prg) (ins : List (List Bool)) (k : Nat) : (plays p ins k).length = k := by simp [plays]
end Sc
end
section
namespace Rf
/-- a state: of each name by its own -/
structure St where
  is : List UInt8 → Bool
  ct : List UInt8 → Int
def upd {β : Type} (f : List UInt8 → β) (n : List UInt8) (v : β) : List UInt8 → β := fun m => if m = n then v else f m
/-- a name's count -/
def top (ns : List Ld.Nme) (nm : List UInt8) : Int := (ns.getD (Ld.number ns nm).toNat ⟨[], 0, 0⟩).count
def goes (e : Bool) (k c top : Int) : Int := if !e && k == 4 then 0 else if e && decide (c < top) then c + 1 else c
def rung (ns : List Ld.Nme) (was : List UInt8 → Bool) (t : St) (r : Ld.Rng) : St := match r.cond with
  | none => t
  | some x =>
    if r.kind = 1 then ⟨upd t.is r.name (x.eval t.is was), t.ct⟩
    else if r.kind = 2 then (if x.eval t.is was then ⟨upd t.is r.name true, t.ct⟩ else t)
    else if r.kind = 3 then (if x.eval t.is was then ⟨upd t.is r.name false, t.ct⟩ else t)
    else if r.kind = 4 ∨ r.kind = 5 then ⟨upd t.is r.name (goes (x.eval t.is was) r.kind (t.ct r.name) (top ns r.name) == top ns r.name), upd t.ct r.name (goes (x.eval t.is was) r.kind (t.ct r.name) (top ns r.name))⟩
    else if r.kind = 6 then (if x.eval t.is was then ⟨upd t.is r.name false, upd t.ct r.name 0⟩ else t)
    else t
def reads (ns : List Ld.Nme) (l : List Nat) (inp : List Bool) (f : List UInt8 → Bool) : List UInt8 → Bool := (l.zip inp).foldl (fun acc p => upd acc (ns.getD p.1 ⟨[], 0, 0⟩).name p.2) f
def step (p : Ld.Prg) (s : St) (inp : List Bool) : St := p.rungs.foldl (rung p.names s.is) ⟨reads p.names (Ld.kindL p.names 1) inp s.is, s.ct⟩
def start : St := ⟨fun _ => false, fun _ => 0⟩
/-- counts, told -/
def toldC (ns : List Ld.Nme) (l : List Int) (s : List UInt8) : Int := if 0 ≤ Ld.number ns s then l.getD (Ld.number ns s).toNat 0 else 0
/-- the document's state of a program's own -/
def of (ns : List Ld.Nme) (s : Sc.St) : St := ⟨Sc.told ns s.is, toldC ns s.ct⟩
theorem number_inj (ns : List Ld.Nme) (a b : List UInt8) (h : 0 ≤ Ld.number ns b) (e : Ld.number ns a = Ld.number ns b) : a = b := by
  rcases Ld.number_cases ns a with ⟨h1, _⟩ | ⟨k, hk, h1, h2, _⟩
  · omega
  · rcases Ld.number_cases ns b with ⟨h3, _⟩ | ⟨j, hj, h3, h4, _⟩
    · omega
    · have : k = j := by omega
      subst this
      exact h2.symm.trans h4
theorem told_set (ns : List Ld.Nme) (l : List Bool) (nm : List UInt8) (v : Bool) (h : 0 ≤ Ld.number ns nm) (hl : l.length = ns.length) : Sc.told ns (l.set (Ld.number ns nm).toNat v) = upd (Sc.told ns l) nm v := by
  funext m
  have hlt := Ld.number_lt ns nm
  unfold upd
  by_cases e : m = nm
  · subst e
    rw [if_pos rfl]
    unfold Sc.told
    rw [Sc.getD_set, if_pos ⟨rfl, by omega⟩]
    simp [h]
  · rw [if_neg e]
    unfold Sc.told
    by_cases h0 : 0 ≤ Ld.number ns m
    · rw [Sc.getD_set, if_neg (fun h1 => e (number_inj ns m nm h (by have := h1.1; omega)))]
    · simp [h0]
theorem toldC_set (ns : List Ld.Nme) (l : List Int) (nm : List UInt8) (v : Int) (h : 0 ≤ Ld.number ns nm) (hl : l.length = ns.length) : toldC ns (l.set (Ld.number ns nm).toNat v) = upd (toldC ns l) nm v := by
  funext m
  have hlt := Ld.number_lt ns nm
  unfold upd
  by_cases e : m = nm
  · subst e
    rw [if_pos rfl]
    unfold toldC
    rw [if_pos h, Sc.getD_set, if_pos ⟨rfl, by omega⟩]
  · rw [if_neg e]
    unfold toldC
    by_cases h0 : 0 ≤ Ld.number ns m
    · rw [if_pos h0, if_pos h0, Sc.getD_set, if_neg (fun h1 => e (number_inj ns m nm h (by have := h1.1; omega)))]
    · rw [if_neg h0, if_neg h0]
theorem upd_same {β : Type} (f : List UInt8 → β) (n : List UInt8) : upd f n (f n) = f := by
  funext m
  unfold upd
  by_cases e : m = n
  · rw [if_pos e, e]
  · rw [if_neg e]
theorem of_start (p : Ld.Prg) : of p.names (Sc.start p) = start := by
  have h1 : ∀ k, (List.replicate p.names.length false).getD k false = false := fun k => by
    rw [List.getD_eq_getElem?_getD, List.getElem?_replicate]
    split <;> rfl
  have h2 : ∀ k, (List.replicate p.names.length (0 : Int)).getD k 0 = 0 := fun k => by
    rw [List.getD_eq_getElem?_getD, List.getElem?_replicate]
    split <;> rfl
  unfold of Sc.start start Sc.told toldC
  congr 1
  · funext m
    rw [h1]
    simp
  · funext m
    rw [h2]
    simp
/-- inputs are read -/
theorem of_reads (ns : List Ld.Nme) : ∀ (l : List Nat) (inp : List Bool) (is : List Bool), is.length = ns.length → (∀ i, i ∈ l → ∃ hi : i < ns.length, Ld.number ns ns[i].name = (i : Int)) → Sc.told ns (Sc.reads l inp is) = reads ns l inp (Sc.told ns is)
  | [], _, _, _, _ => rfl
  | _ :: _, [], _, _, _ => rfl
  | i :: l, b :: inp, is, hl, hn => by
    obtain ⟨hi, h1⟩ := hn i (by simp)
    have h2 := told_set ns is ns[i].name b (by omega) hl
    rw [h1, Int.toNat_natCast] at h2
    have h3 := of_reads ns l inp (is.set i b) (by simpa using hl) (fun j hj => hn j (by simp [hj]))
    unfold Sc.reads reads at h3 ⊢
    simp only [List.zip_cons_cons, List.foldl_cons]
    rw [h3, h2]
    have e : (ns.getD i ⟨[], 0, 0⟩).name = ns[i].name := by simp [hi]
    rw [e]
theorem told_at (ns : List Ld.Nme) (l : List Bool) (nm : List UInt8) (h : 0 ≤ Ld.number ns nm) : Sc.told ns l nm = l.getD (Ld.number ns nm).toNat false := by
  unfold Sc.told
  simp [h]
theorem toldC_at (ns : List Ld.Nme) (l : List Int) (nm : List UInt8) (h : 0 ≤ Ld.number ns nm) : toldC ns l nm = l.getD (Ld.number ns nm).toNat 0 := by
  unfold toldC
  rw [if_pos h]
/-- a rung does what the document says -/
theorem of_rung (p : Ld.Prg) (hck : Ld.check p = none) (was : List Bool) (r : Ld.Rng) (hr : r ∈ p.rungs) (s : Sc.St) (hb : Sc.Bd p s) : of p.names (Sc.doRung p.names was s r) = rung p.names (Sc.told p.names was) (of p.names s) r := by
  obtain ⟨h1, h2, h3, h4, x, h5, _⟩ := Ld.check_rungs p hck r hr
  obtain ⟨k, hk, h6, h7, _⟩ : ∃ (k : Nat) (h : k < p.names.length), Ld.number p.names r.name = (k : Int) ∧ p.names[k].name = r.name ∧ True := by
    rcases Ld.number_cases p.names r.name with ⟨h6, _⟩ | ⟨k, hk, h6, h7, _⟩
    · omega
    · exact ⟨k, hk, h6, h7, trivial⟩
  have hbk := hb.at_ k hk
  have hs1 : ∀ v, Sc.told p.names (s.is.set k v) = upd (Sc.told p.names s.is) r.name v := fun v => by
    have := told_set p.names s.is r.name v h3 hb.li
    rw [h6, Int.toNat_natCast] at this
    exact this
  have hs2 : ∀ v, toldC p.names (s.ct.set k v) = upd (toldC p.names s.ct) r.name v := fun v => by
    have := toldC_set p.names s.ct r.name v h3 hb.lc
    rw [h6, Int.toNat_natCast] at this
    exact this
  have ha1 : Sc.told p.names s.is r.name = s.is.getD k false := by
    have := told_at p.names s.is r.name h3
    rw [h6, Int.toNat_natCast] at this
    exact this
  have ha2 : toldC p.names s.ct r.name = s.ct.getD k 0 := by
    have := toldC_at p.names s.ct r.name h3
    rw [h6, Int.toNat_natCast] at this
    exact this
  have hcnt : (p.names.getD k ⟨[], 0, 0⟩).count = p.names[k].count := by simp [hk]
  have htop : top p.names r.name = p.names[k].count := by unfold top; rw [h6, Int.toNat_natCast]; exact hcnt
  unfold Sc.doRung rung
  rw [h5]
  simp only
  rw [if_pos h3, h6, Int.toNat_natCast, hcnt]
  have eq0 : (of p.names s).is = Sc.told p.names s.is := rfl
  have eq1 : (of p.names s).ct = toldC p.names s.ct := rfl
  rw [eq0, eq1, htop, ha2]
  generalize x.eval (Sc.told p.names s.is) (Sc.told p.names was) = e
  rcases (show r.kind = 1 ∨ r.kind = 2 ∨ r.kind = 3 ∨ r.kind = 4 ∨ r.kind = 5 ∨ r.kind = 6 by omega) with hk1 | hk1 | hk1 | hk1 | hk1 | hk1
  · rw [hk1]
    simp only [Sc.rung, if_true, of, hs1]
  · rw [hk1]
    cases e with
    | true => simp [Sc.rung, of, hs1]
    | false =>
      simp only [Sc.rung, Bool.or_false]
      simp only [show ¬ (2 : Int) = 1 by decide, if_false, if_true, of, hs1]
      rw [← ha1, upd_same]
      simp
  · rw [hk1]
    cases e with
    | true => simp [Sc.rung, of, hs1]
    | false =>
      simp only [Sc.rung, Bool.not_false, Bool.and_true]
      simp only [show ¬ (3 : Int) = 1 by decide, show ¬ (3 : Int) = 2 by decide, if_false, if_true, of, hs1]
      rw [← ha1, upd_same]
      simp
  · rw [hk1]
    have hg : goes e 4 (s.ct.getD k 0) p.names[k].count = if e then Sc.further (s.ct.getD k 0) p.names[k].count else 0 := by
      unfold goes Sc.further
      cases e with
      | false => simp
      | true =>
        simp only [Bool.not_true, Bool.false_and, Bool.false_eq_true, if_false, Bool.true_and, if_true, decide_eq_true_eq]
        split
        · rfl
        · omega
    simp only [Sc.rung, show ¬ (4 : Int) = 1 by decide, show ¬ (4 : Int) = 2 by decide, show ¬ (4 : Int) = 3 by decide, if_false, if_true, true_or, Sc.run, of, hs1, hs2, hg]
  · rw [hk1]
    have hg : goes e 5 (s.ct.getD k 0) p.names[k].count = if e then Sc.further (s.ct.getD k 0) p.names[k].count else s.ct.getD k 0 := by
      unfold goes Sc.further
      cases e with
      | false => simp
      | true =>
        simp only [Bool.not_true, Bool.false_and, Bool.false_eq_true, if_false, Bool.true_and, if_true, decide_eq_true_eq]
        split
        · rfl
        · omega
    simp only [Sc.rung, show ¬ (5 : Int) = 1 by decide, show ¬ (5 : Int) = 2 by decide, show ¬ (5 : Int) = 3 by decide, show ¬ (5 : Int) = 4 by decide, if_false, if_true, or_true, Sc.count, of, hs1, hs2, hg]
  · rw [hk1]
    cases e with
    | true => simp [Sc.rung, Sc.zero, of, hs1, hs2]
    | false => simp [Sc.rung, Sc.zero, of]
theorem of_fold (p : Ld.Prg) (hck : Ld.check p = none) (was : List Bool) : ∀ (rs : List Ld.Rng), (∀ r, r ∈ rs → r ∈ p.rungs) → ∀ s, Sc.Bd p s → of p.names (rs.foldl (Sc.doRung p.names was) s) = rs.foldl (rung p.names (Sc.told p.names was)) (of p.names s)
  | [], _, _, _ => rfl
  | r :: rs, hrs, s, hb => by
    rw [List.foldl_cons, List.foldl_cons, of_fold p hck was rs (fun r' hr' => hrs r' (by simp [hr'])) _ (Sc.doRung_bd p hck was r (hrs r (by simp)) s hb).1, of_rung p hck was r (hrs r (by simp)) s hb]
/-- each name's number is its own -/
theorem number_self (p : Ld.Prg) (h : Ld.check p = none) (k : Nat) (hk : k < p.names.length) : Ld.number p.names p.names[k].name = (k : Int) := by
  unfold Ld.check at h
  by_cases hl : 12 < p.names.length ∨ 40 < p.rungs.length
  · rw [if_pos hl] at h; cases h
  rw [if_neg hl] at h
  cases hn : Ld.bad (Ld.nameAt p.names) p.names.length with
  | some r => rw [hn] at h; cases h
  | none =>
    have h1 := Ld.bad_none _ _ hn k hk
    rw [Ld.nameAt_at _ _ hk, Ld.wrongN] at h1
    have h2 : ¬ Ld.number p.names p.names[k].name < (k : Int) := by
      intro hlt
      rw [if_pos hlt] at h1
      repeat' split at h1
      all_goals omega
    rcases Ld.number_cases p.names p.names[k].name with ⟨_, h4⟩ | ⟨j, hj, h3, h4, h5⟩
    · exact absurd rfl (h4 _ (List.getElem_mem hk))
    · rw [h3] at h2 ⊢
      by_cases e : j = k
      · rw [e]
      · exact absurd rfl (h5 k (by omega))
/-- a scan does what the document says -/
theorem of_step (p : Ld.Prg) (hck : Ld.check p = none) (s : Sc.St) (inp : List Bool) (hb : Sc.Bd p s) : of p.names (Sc.step p s inp) = step p (of p.names s) inp := by
  have hb0 : Sc.Bd p ⟨Sc.reads (Ld.kindL p.names 1) inp s.is, s.ct⟩ := by
    refine ⟨by simp only [Sc.reads_len]; exact hb.li, hb.lc, fun k hk => ?_⟩
    obtain ⟨h1, h2, h3⟩ := hb.at_ k hk
    refine ⟨h1, h2, fun h4 => ?_⟩
    simp only
    rw [Sc.reads_other _ _ _ _ (fun hm => by obtain ⟨hi, he⟩ := Ld.kindL_at _ _ _ hm; omega)]
    exact h3 h4
  have h1 := of_fold p hck s.is p.rungs (fun _ h => h) _ hb0
  have h2 := of_reads p.names (Ld.kindL p.names 1) inp s.is hb.li (fun i hi => by
    obtain ⟨hi2, _⟩ := Ld.kindL_at _ _ _ hi
    exact ⟨hi2, number_self p hck i hi2⟩)
  have h3 : of p.names ⟨Sc.reads (Ld.kindL p.names 1) inp s.is, s.ct⟩ = ⟨reads p.names (Ld.kindL p.names 1) inp (of p.names s).is, (of p.names s).ct⟩ := by
    unfold of
    rw [h2]
  rw [h3] at h1
  exact h1
end Rf
end
end Go.Proofs.YtgoabhclnicepaaGreatDoor
