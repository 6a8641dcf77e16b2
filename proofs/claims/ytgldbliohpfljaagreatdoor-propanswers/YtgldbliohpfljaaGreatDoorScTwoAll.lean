/-
  The document's states by names, in plain words: what its Step does is what package scan's does. Plain mathematics of chapter 4: states as numbers. Nothing of the program is named here. The document's machines, in plain words: its numbers of states are package machine's. Plain mathematics: bits of numbers, lists of bools as numbers. Rows of bools; all that is old stands, but for two rows. (Out of ScRung and ScStart: for seats without package scan.)
-/
import Derived.Test.YtgldbliohpfljaaGreatDoorScBoundAll
import Derived.Test.YtgldbliohpfljaaGreatDoorLdRepAll
import Derived.Laws.Bits64b
import Derived.Laws.BitsLemmas
namespace Go.Proofs.YtgldbliohpfljaaGreatDoor
section
namespace Rf
/-- a state: of each name by its own -/
structure St where
  is : List UInt8 → Bool
  ct : List UInt8 → Int
def upd {β : Type} (f : List UInt8 → β) (n : List UInt8) (v : β) : List UInt8 → β := fun m => if m = n then v else f m
/-- a name's count -/
def top (ns : List Ld.Nme) (nm : List UInt8) : Int := (ns.getD (Ld.number ns nm).toNat ⟨[], 0, 0⟩).count
def goes (e : Bool) (k c top : Int) : Int := if !e && k == 4 then 0 else if e && decide (c < top) then c + 1 else c
def rung (ns : List Ld.Nme) (was : List UInt8 → Bool) (t : St) (r : Ld.Rng) : St := match r.cond with
  | none => t
  | some x =>
    if r.kind = 1 then ⟨upd t.is r.name (x.eval t.is was), t.ct⟩
    else if r.kind = 2 then (if x.eval t.is was then ⟨upd t.is r.name true, t.ct⟩ else t)
    else if r.kind = 3 then (if x.eval t.is was then ⟨upd t.is r.name false, t.ct⟩ else t)
    else if r.kind = 4 ∨ r.kind = 5 then ⟨upd t.is r.name (goes (x.eval t.is was) r.kind (t.ct r.name) (top ns r.name) == top ns r.name), upd t.ct r.name (goes (x.eval t.is was) r.kind (t.ct r.name) (top ns r.name))⟩
    else if r.kind = 6 then (if x.eval t.is was then ⟨upd t.is r.name false, upd t.ct r.name 0⟩ else t)
    else t
def reads (ns : List Ld.Nme) (l : List Nat) (inp : List Bool) (f : List UInt8 → Bool) : List UInt8 → Bool := (l.zip inp).foldl (fun acc p => upd acc (ns.getD p.1 ⟨[], 0, 0⟩).name p.2) f
def step (p : Ld.Prg) (s : St) (inp : List Bool) : St := p.rungs.foldl (rung p.names s.is) ⟨reads p.names (Ld.kindL p.names 1) inp s.is, s.ct⟩
def start : St := ⟨fun _ => false, fun _ => 0⟩
/-- counts, told -/
def toldC (ns : List Ld.Nme) (l : List Int) (s : List UInt8) : Int := if 0 ≤ Ld.number ns s then l.getD (Ld.number ns s).toNat 0 else 0
/-- the document's state of a program's own -/
def of (ns : List Ld.Nme) (s : Sc.St) : St := ⟨Sc.told ns s.is, toldC ns s.ct⟩
theorem number_inj (ns : List Ld.Nme) (a b : List UInt8) (h : 0 ≤ Ld.number ns b) (e : Ld.number ns a = Ld.number ns b) : a = b := by
  rcases Ld.number_cases ns a with ⟨h1, _⟩ | ⟨k, hk, h1, h2, _⟩
  · omega
  · rcases Ld.number_cases ns b with ⟨h3, _⟩ | ⟨j, hj, h3, h4, _⟩
    · omega
    · have : k = j := by omega
      subst this
      exact h2.symm.trans h4
theorem told_set (ns : List Ld.Nme) (l : List Bool) (nm : List UInt8) (v : Bool) (h : 0 ≤ Ld.number ns nm) (hl : l.length = ns.length) : Sc.told ns (l.set (Ld.number ns nm).toNat v) = upd (Sc.told ns l) nm v := by
  funext m
  have hlt := Ld.number_lt ns nm
  unfold upd
  by_cases e : m = nm
  · subst e
    rw [if_pos rfl]
    unfold Sc.told
    rw [Sc.getD_set, if_pos ⟨rfl, by omega⟩]
    simp [h]
  · rw [if_neg e]
    unfold Sc.told
    by_cases h0 : 0 ≤ Ld.number ns m
    · rw [Sc.getD_set, if_neg (fun h1 => e (number_inj ns m nm h (by have := h1.1; omega)))]
    · simp [h0]
theorem toldC_set (ns : List Ld.Nme) (l : List Int) (nm : List UInt8) (v : Int) (h : 0 ≤ Ld.number ns nm) (hl : l.length = ns.length) : toldC ns (l.set (Ld.number ns nm).toNat v) = upd (toldC ns l) nm v := by
  funext m
  have hlt := Ld.number_lt ns nm
  unfold upd
  by_cases e : m = nm
  · subst e
    rw [if_pos rfl]
    unfold toldC
    rw [if_pos h, Sc.getD_set, if_pos ⟨rfl, by omega⟩]
  · rw [if_neg e]
    unfold toldC
    by_cases h0 : 0 ≤ Ld.number ns m
    · rw [if_pos h0, if_pos h0, Sc.getD_set, if_neg (fun h1 => e (number_inj ns m nm h (by have := h1.1; omega)))]
    · rw [if_neg h0, if_neg h0]
theorem upd_same {β : Type} (f : List UInt8 → β) (n : List UInt8) : upd f n (f n) = f := by
  funext m
  unfold upd
  by_cases e : m = n
  · rw [if_pos e, e]
  · rw [if_neg e]
theorem of_start (p : Ld.Prg) : of p.names (Sc.start p) = start := by
  have h1 : ∀ k, (List.replicate p.names.length false).getD k false = false := fun k => by
    rw [List.getD_eq_getElem?_getD, List.getElem?_replicate]
    split <;> rfl
  have h2 : ∀ k, (List.replicate p.names.length (0 : Int)).getD k 0 = 0 := fun k => by
    rw [List.getD_eq_getElem?_getD, List.getElem?_replicate]
    split <;> rfl
  unfold of Sc.start start Sc.told toldC
  congr 1
  · funext m
    rw [h1]
    simp
  · funext m
    rw [h2]
    simp
/-- inputs are read -/
theorem of_reads (ns : List Ld.Nme) : ∀ (l : List Nat) (inp : List Bool) (is : List Bool), is.length = ns.length → (∀ i, i ∈ l → ∃ hi : i < ns.length, Ld.number ns ns[i].name = (i : Int)) → Sc.told ns (Sc.reads l inp is) = reads ns l inp (Sc.told ns is)
  | [], _, _, _, _ => rfl
  | _ :: _, [], _, _, _ => rfl
  | i :: l, b :: inp, is, hl, hn => by
    obtain ⟨hi, h1⟩ := hn i (by simp)
    have h2 := told_set ns is ns[i].name b (by omega) hl
    rw [h1, Int.toNat_natCast] at h2
    have h3 := of_reads ns l inp (is.set i b) (by simpa using hl) (fun j hj => hn j (by simp [hj]))
    unfold Sc.reads reads at h3 ⊢
    simp only [List.zip_cons_cons, List.foldl_cons]
    rw [h3, h2]
    have e : (ns.getD i ⟨[], 0, 0⟩).name = ns[i].name := by simp [hi]
    rw [e]
theorem told_at (ns : List Ld.Nme) (l : List Bool) (nm : List UInt8) (h : 0 ≤ Ld.number ns nm) : Sc.told ns l nm = l.getD (Ld.number ns nm).toNat false := by
  unfold Sc.told
  simp [h]
theorem toldC_at (ns : List Ld.Nme) (l : List Int) (nm : List UInt8) (h : 0 ≤ Ld.number ns nm) : toldC ns l nm = l.getD (Ld.number ns nm).toNat 0 := by
  unfold toldC
  rw [if_pos h]
/-- a rung does what the document says -/
theorem of_rung (p : Ld.Prg) (hck : Ld.check p = none) (was : List Bool) (r : Ld.Rng) (hr : r ∈ p.rungs) (s : Sc.St) (hb : Sc.Bd p s) : of p.names (Sc.doRung p.names was s r) = rung p.names (Sc.told p.names was) (of p.names s) r := by
  obtain ⟨h1, h2, h3, h4, x, h5, _⟩ := Ld.check_rungs p hck r hr
  obtain ⟨k, hk, h6, h7, _⟩ : ∃ (k : Nat) (h : k < p.names.length), Ld.number p.names r.name = (k : Int) ∧ p.names[k].name = r.name ∧ True := by
    rcases Ld.number_cases p.names r.name with ⟨h6, _⟩ | ⟨k, hk, h6, h7, _⟩
    · omega
    · exact ⟨k, hk, h6, h7, trivial⟩
  have hbk := hb.at_ k hk
  have hs1 : ∀ v, Sc.told p.names (s.is.set k v) = upd (Sc.told p.names s.is) r.name v := fun v => by
    have := told_set p.names s.is r.name v h3 hb.li
    rw [h6, Int.toNat_natCast] at this
    exact this
  have hs2 : ∀ v, toldC p.names (s.ct.set k v) = upd (toldC p.names s.ct) r.name v := fun v => by
    have := toldC_set p.names s.ct r.name v h3 hb.lc
    rw [h6, Int.toNat_natCast] at this
    exact this
  have ha1 : Sc.told p.names s.is r.name = s.is.getD k false := by
    have := told_at p.names s.is r.name h3
    rw [h6, Int.toNat_natCast] at this
    exact this
  have ha2 : toldC p.names s.ct r.name = s.ct.getD k 0 := by
    have := toldC_at p.names s.ct r.name h3
    rw [h6, Int.toNat_natCast] at this
    exact this
  have hcnt : (p.names.getD k ⟨[], 0, 0⟩).count = p.names[k].count := by simp [hk]
  have htop : top p.names r.name = p.names[k].count := by unfold top; rw [h6, Int.toNat_natCast]; exact hcnt
  unfold Sc.doRung rung
  rw [h5]
  simp only
  rw [if_pos h3, h6, Int.toNat_natCast, hcnt]
  have eq0 : (of p.names s).is = Sc.told p.names s.is := rfl
  have eq1 : (of p.names s).ct = toldC p.names s.ct := rfl
  rw [eq0, eq1, htop, ha2]
  generalize x.eval (Sc.told p.names s.is) (Sc.told p.names was) = e
  rcases (show r.kind = 1 ∨ r.kind = 2 ∨ r.kind = 3 ∨ r.kind = 4 ∨ r.kind = 5 ∨ r.kind = 6 by omega) with hk1 | hk1 | hk1 | hk1 | hk1 | hk1
  · rw [hk1]
    simp only [Sc.rung, if_true, of, hs1]
  · rw [hk1]
    cases e with
    | true => simp [Sc.rung, of, hs1]
    | false =>
      simp only [Sc.rung, Bool.or_false]
      simp only [show ¬ (2 : Int) = 1 by decide, if_false, if_true, of, hs1]
      rw [← ha1, upd_same]
      simp
  · rw [hk1]
    cases e with
    | true => simp [Sc.rung, of, hs1]
    | false =>
      simp only [Sc.rung, Bool.not_false, Bool.and_true]
      simp only [show ¬ (3 : Int) = 1 by decide, show ¬ (3 : Int) = 2 by decide, if_false, if_true, of, hs1]
      rw [← ha1, upd_same]
      simp
  · rw [hk1]
    have hg : goes e 4 (s.ct.getD k 0) p.names[k].count = if e then Sc.further (s.ct.getD k 0) p.names[k].count else 0 := by
      unfold goes Sc.further
      cases e with
      | false => simp
      | true =>
        simp only [Bool.not_true, Bool.false_and, Bool.false_eq_true, if_false, Bool.true_and, if_true, decide_eq_true_eq]
        split
        · rfl
        · omega
    simp only [Sc.rung, show ¬ (4 : Int) = 1 by decide, show ¬ (4 : Int) = 2 by decide, show ¬ (4 : Int) = 3 by decide, if_false, if_true, true_or, Sc.run, of, hs1, hs2, hg]
  · rw [hk1]
    have hg : goes e 5 (s.ct.getD k 0) p.names[k].count = if e then Sc.further (s.ct.getD k 0) p.names[k].count else s.ct.getD k 0 := by
      unfold goes Sc.further
      cases e with
      | false => simp
      | true =>
        simp only [Bool.not_true, Bool.false_and, Bool.false_eq_true, if_false, Bool.true_and, if_true, decide_eq_true_eq]
        split
        · rfl
        · omega
    simp only [Sc.rung, show ¬ (5 : Int) = 1 by decide, show ¬ (5 : Int) = 2 by decide, show ¬ (5 : Int) = 3 by decide, show ¬ (5 : Int) = 4 by decide, if_false, if_true, or_true, Sc.count, of, hs1, hs2, hg]
  · rw [hk1]
    cases e with
    | true => simp [Sc.rung, Sc.zero, of, hs1, hs2]
    | false => simp [Sc.rung, Sc.zero, of]
theorem of_fold (p : Ld.Prg) (hck : Ld.check p = none) (was : List Bool) : ∀ (rs : List Ld.Rng), (∀ r, r ∈ rs → r ∈ p.rungs) → ∀ s, Sc.Bd p s → of p.names (rs.foldl (Sc.doRung p.names was) s) = rs.foldl (rung p.names (Sc.told p.names was)) (of p.names s)
  | [], _, _, _ => rfl
  | r :: rs, hrs, s, hb => by
    rw [List.foldl_cons, List.foldl_cons, of_fold p hck was rs (fun r' hr' => hrs r' (by simp [hr'])) _ (Sc.doRung_bd p hck was r (hrs r (by simp)) s hb).1, of_rung p hck was r (hrs r (by simp)) s hb]
/-- each name's number is its own -/
theorem number_self (p : Ld.Prg) (h : Ld.check p = none) (k : Nat) (hk : k < p.names.length) : Ld.number p.names p.names[k].name = (k : Int) := by
  unfold Ld.check at h
  by_cases hl : 12 < p.names.length ∨ 40 < p.rungs.length
  · rw [if_pos hl] at h; cases h
  rw [if_neg hl] at h
  cases hn : Ld.bad (Ld.nameAt p.names) p.names.length with
  | some r => rw [hn] at h; cases h
  | none =>
    have h1 := Ld.bad_none _ _ hn k hk
    rw [Ld.nameAt_at _ _ hk, Ld.wrongN] at h1
    have h2 : ¬ Ld.number p.names p.names[k].name < (k : Int) := by
      intro hlt
      rw [if_pos hlt] at h1
      repeat' split at h1
      all_goals omega
    rcases Ld.number_cases p.names p.names[k].name with ⟨_, h4⟩ | ⟨j, hj, h3, h4, h5⟩
    · exact absurd rfl (h4 _ (List.getElem_mem hk))
    · rw [h3] at h2 ⊢
      by_cases e : j = k
      · rw [e]
      · exact absurd rfl (h5 k (by omega))
/-- a scan does what the document says -/
theorem of_step (p : Ld.Prg) (hck : Ld.check p = none) (s : Sc.St) (inp : List Bool) (hb : Sc.Bd p s) : of p.names (Sc.step p s inp) = step p (of p.names s) inp := by
  have hb0 : Sc.Bd p ⟨Sc.reads (Ld.kindL p.names 1) inp s.is, s.ct⟩ := by
    refine ⟨by simp only [Sc.reads_len]; exact hb.li, hb.lc, fun k hk => ?_⟩
    obtain ⟨h1, h2, h3⟩ := hb.at_ k hk
    refine ⟨h1, h2, fun h4 => ?_⟩
    simp only
    rw [Sc.reads_other _ _ _ _ (fun hm => by obtain ⟨hi, he⟩ := Ld.kindL_at _ _ _ hm; omega)]
    exact h3 h4
  have h1 := of_fold p hck s.is p.rungs (fun _ h => h) _ hb0
  have h2 := of_reads p.names (Ld.kindL p.names 1) inp s.is hb.li (fun i hi => by
    obtain ⟨hi2, _⟩ := Ld.kindL_at _ _ _ hi
    exact ⟨hi2, number_self p hck i hi2⟩)
  have h3 : of p.names ⟨Sc.reads (Ld.kindL p.names 1) inp s.is, s.ct⟩ = ⟨reads p.names (Ld.kindL p.names 1) inp (of p.names s).is, (of p.names s).ct⟩ := by
    unfold of
    rw [h2]
  rw [h3] at h1
  exact h1
end Rf
end
section
namespace Mc
/-- what a state's number has of name k: how many there are, and is it counted? -/
def part (p : Ld.Prg) (k : Nat) : Nat × Bool :=
  match p.names[k]? with
  | some n => if n.kind = 3 ∨ n.kind = 4 then (n.count.toNat + 1, true) else if n.kind = 2 then (2, false) else if (Ld.edges p).contains k then (2, false) else (1, false)
  | none => (1, false)
def parts (p : Ld.Prg) : List (Nat × Bool) := (List.range p.names.length).map (part p)
theorem parts_len (p : Ld.Prg) : (parts p).length = p.names.length := by simp [parts]
theorem parts_at (p : Ld.Prg) (k : Nat) (hk : k < p.names.length) : (parts p)[k]? = some (part p k) := by simp [parts, hk]
def told (x : Nat × Bool) (is : Bool) (ct : Int) : Nat := if x.2 then ct.toNat else if is && decide (1 < x.1) then 1 else 0
/-- the number of a state: the first part counts the least -/
def number : List (Nat × Bool) → List Bool → List Int → Nat
  | [], _, _ => 0
  | x :: r, is, ct => number r is.tail ct.tail * x.1 + told x (is.headD false) (ct.headD 0)
def total (l : List (Nat × Bool)) : Nat := l.foldr (fun x n => x.1 * n) 1
def stateI : List (Nat × Bool) → Nat → List Bool
  | [], _ => []
  | x :: r, n => (decide (1 < x.1) && decide (n % x.1 = x.1 - 1)) :: stateI r (n / x.1)
def stateC : List (Nat × Bool) → Nat → List Int
  | [], _ => []
  | x :: r, n => (if x.2 then ((n % x.1 : Nat) : Int) else 0) :: stateC r (n / x.1)
def state (l : List (Nat × Bool)) (n : Nat) : Sc.St := ⟨stateI l n, stateC l n⟩
theorem stateI_len : ∀ (l : List (Nat × Bool)) (n : Nat), (stateI l n).length = l.length
  | [], _ => rfl
  | x :: r, n => by simp [stateI, stateI_len r]
theorem stateC_len : ∀ (l : List (Nat × Bool)) (n : Nat), (stateC l n).length = l.length
  | [], _ => rfl
  | x :: r, n => by simp [stateC, stateC_len r]
/-- a part is well: at least one; what is not counted is of one or two -/
def okP (x : Nat × Bool) : Prop := 1 ≤ x.1 ∧ (x.2 = false → x.1 ≤ 2)
theorem part_ok (p : Ld.Prg) (k : Nat) : okP (part p k) := by
  unfold part okP
  repeat' split
  all_goals simp
theorem parts_ok (p : Ld.Prg) : ∀ x, x ∈ parts p → okP x := by
  intro x hx
  obtain ⟨k, _, rfl⟩ := List.mem_map.1 hx
  exact part_ok p k
theorem total_pos : ∀ (l : List (Nat × Bool)), (∀ x, x ∈ l → okP x) → 1 ≤ total l
  | [], _ => by simp [total]
  | x :: r, h => by
    have h1 := total_pos r (fun y hy => h y (by simp [hy]))
    have h2 := (h x (by simp)).1
    show 1 ≤ x.1 * total r
    exact Nat.mul_le_mul h2 h1
/-- the number of a number's state is that number -/
theorem number_state : ∀ (l : List (Nat × Bool)) (n : Nat), (∀ x, x ∈ l → okP x) → n < total l → number l (stateI l n) (stateC l n) = n
  | [], n, _, hn => by simp [total] at hn; subst hn; rfl
  | x :: r, n, h, hn => by
    obtain ⟨h1, h2⟩ := h x (by simp)
    have hlt : n / x.1 < total r := by
      rw [Nat.div_lt_iff_lt_mul (by omega), Nat.mul_comm]; exact hn
    have ih := number_state r (n / x.1) (fun y hy => h y (by simp [hy])) hlt
    show number r (stateI r (n / x.1)) (stateC r (n / x.1)) * x.1 + told x (decide (1 < x.1) && decide (n % x.1 = x.1 - 1)) (if x.2 then ((n % x.1 : Nat) : Int) else 0) = n
    rw [ih]
    have ht : told x (decide (1 < x.1) && decide (n % x.1 = x.1 - 1)) (if x.2 then ((n % x.1 : Nat) : Int) else 0) = n % x.1 := by
      unfold told
      cases hx : x.2 with
      | true => simp only [if_true]; omega
      | false =>
        have h3 := h2 hx
        have h4 : n % x.1 < x.1 := Nat.mod_lt _ (by omega)
        by_cases h5 : 1 < x.1
        · have e : x.1 = 2 := by omega
          rw [e] at h4 ⊢
          by_cases h6 : n % 2 = 1
          · simp [h6]
          · have : n % 2 = 0 := by omega
            simp [this]
        · have e : x.1 = 1 := by omega
          rw [e]
          simp [Nat.mod_one]
    rw [ht]
    have := Nat.div_add_mod n x.1
    rw [Nat.mul_comm] at this
    exact this
/-- a part and what it is of: a count below how many there are -/
def okS (x : Nat × Bool) (ct : Int) : Prop := x.2 = true → 0 ≤ ct ∧ ct.toNat < x.1
theorem told_lt (x : Nat × Bool) (is : Bool) (ct : Int) (hx : okP x) (hs : okS x ct) : told x is ct < x.1 := by
  obtain ⟨h1, h2⟩ := hx
  unfold told
  cases h : x.2 with
  | true => simp; exact (hs h).2
  | false =>
    simp only [Bool.false_eq_true, if_false]
    split
    · rename_i h3; simp at h3; exact h3.2
    · omega
theorem number_cons (x : Nat × Bool) (r : List (Nat × Bool)) (i : Bool) (is : List Bool) (c : Int) (ct : List Int) : number (x :: r) (i :: is) (c :: ct) = number r is ct * x.1 + told x i c := rfl
theorem number_lt : ∀ (l : List (Nat × Bool)) (is : List Bool) (ct : List Int), (∀ x, x ∈ l → okP x) → is.length = l.length → ct.length = l.length → (∀ (k : Nat) x c, l[k]? = some x → ct[k]? = some c → okS x c) → number l is ct < total l
  | [], _, _, _, _, _, _ => by simp [number, total]
  | x :: r, [], _, _, h, _, _ => by simp at h
  | x :: r, _ :: _, [], _, _, h, _ => by simp at h
  | x :: r, i :: is, c :: ct, h, h1, h2, h3 => by
    have ih := number_lt r is ct (fun y hy => h y (by simp [hy])) (by simpa using h1) (by simpa using h2) (fun k x c hx hc => h3 (k + 1) x c (by simpa using hx) (by simpa using hc))
    have ht := told_lt x i c (h x (by simp)) (h3 0 x c rfl rfl)
    rw [number_cons]
    show _ < x.1 * total r
    have h4 : (number r is ct + 1) * x.1 ≤ total r * x.1 := Nat.mul_le_mul_right _ ih
    rw [Nat.add_mul, Nat.one_mul] at h4
    rw [Nat.mul_comm x.1]
    omega
/-- what a number's state has: where the number is a state's -/
theorem state_number : ∀ (l : List (Nat × Bool)) (is : List Bool) (ct : List Int), (∀ x, x ∈ l → okP x) → is.length = l.length → ct.length = l.length → (∀ (k : Nat) x c, l[k]? = some x → ct[k]? = some c → okS x c) →
    ∀ (k : Nat) (x : Nat × Bool) (i : Bool) (c : Int), l[k]? = some x → is[k]? = some i → ct[k]? = some c →
      (stateI l (number l is ct))[k]? = some (decide (1 < x.1) && decide (told x i c = x.1 - 1)) ∧ (stateC l (number l is ct))[k]? = some (if x.2 then ((told x i c : Nat) : Int) else 0)
  | [], _, _, _, _, _, _, k, x, i, c, hx, _, _ => by simp at hx
  | x :: r, [], _, _, h, _, _, _, _, _, _, _, _, _ => by simp at h
  | x :: r, _ :: _, [], _, _, h, _, _, _, _, _, _, _, _ => by simp at h
  | x :: r, i :: is, c :: ct, h, h1, h2, h3, k, y, j, d, hy, hj, hd => by
    have hx := h x (by simp)
    have ht := told_lt x i c hx (h3 0 x c rfl rfl)
    have e1 : number (x :: r) (i :: is) (c :: ct) % x.1 = told x i c := by
      rw [number_cons, Nat.add_comm, Nat.add_mul_mod_self_right, Nat.mod_eq_of_lt ht]
    have e2 : number (x :: r) (i :: is) (c :: ct) / x.1 = number r is ct := by
      rw [number_cons, Nat.add_comm, Nat.add_mul_div_right _ _ (by omega), Nat.div_eq_of_lt ht, Nat.zero_add]
    cases k with
    | zero =>
      simp only [List.getElem?_cons_zero, Option.some.injEq] at hy hj hd
      subst hy; subst hj; subst hd
      simp only [stateI, stateC, List.getElem?_cons_zero, e1]
      exact ⟨trivial, trivial⟩
    | succ k =>
      simp only [stateI, stateC, List.getElem?_cons_succ, e2]
      exact state_number r is ct (fun y hy => h y (by simp [hy])) (by simpa using h1) (by simpa using h2) (fun k x c hx hc => h3 (k + 1) x c (by simpa using hx) (by simpa using hc)) k y j d (by simpa using hy) (by simpa using hj) (by simpa using hd)
/-- two states between which no scan tells a difference -/
structure Alike (p : Ld.Prg) (s t : Sc.St) : Prop where
  li : s.is.length = t.is.length
  ct : s.ct = t.ct
  is : ∀ k, (∀ n, p.names[k]? = some n → n.kind ≠ 1) → s.is.getD k false = t.is.getD k false
  was : ∀ k, k ∈ Ld.edges p → s.is.getD k false = t.is.getD k false
theorem ext_getD {a b : List Bool} (hl : a.length = b.length) (h : ∀ k, k < a.length → a.getD k false = b.getD k false) : a = b := by
  apply List.ext_getElem hl
  intro k h1 h2
  have := h k h1
  simpa [h1, h2] using this
theorem mem_edges (p : Ld.Prg) (hck : Ld.check p = none) (r : Ld.Rng) (hr : r ∈ p.rungs) (x : Ex) (hx : r.cond = some x) (nm : List UInt8) (hn : nm ∈ x.named false) : 0 ≤ Ld.number p.names nm ∧ (Ld.number p.names nm).toNat ∈ Ld.edges p := by
  obtain ⟨_, _, _, _, y, hy, hk⟩ := Ld.check_rungs p hck r hr
  rw [hx] at hy
  cases hy
  unfold Ld.known at hk
  rw [List.all_eq_true] at hk
  have h0 : 0 ≤ Ld.number p.names nm := by simpa using hk nm (Ex.edges_names x nm hn)
  refine ⟨h0, ?_⟩
  rcases Ld.number_cases p.names nm with ⟨h1, _⟩ | ⟨k, hk2, h1, h2, _⟩
  · omega
  · rw [h1]
    unfold Ld.edges Ld.placesTo
    rw [List.mem_filter]
    refine ⟨List.mem_range.2 (by omega), ?_⟩
    rw [show ((k : Int)).toNat = k by omega, List.getElem?_eq_getElem hk2]
    simp only
    rw [List.contains_iff_mem, h2]
    unfold Ld.asked
    exact List.mem_flatten.2 ⟨_, List.mem_map.2 ⟨r, hr, rfl⟩, by rw [Ld.asksR, hx]; exact hn⟩
theorem alike_step (p : Ld.Prg) (hck : Ld.check p = none) (s t : Sc.St) (inp : List Bool) (h : Alike p s t) (hls : s.is.length = p.names.length) (hil : inp.length = (Ld.kindL p.names 1).length) : Sc.step p s inp = Sc.step p t inp := by
  have hr : Sc.reads (Ld.kindL p.names 1) inp s.is = Sc.reads (Ld.kindL p.names 1) inp t.is := by
    apply ext_getD (by rw [Sc.reads_len, Sc.reads_len]; exact h.li)
    intro k hk
    rw [Sc.reads_len] at hk
    by_cases hm : k ∈ Ld.kindL p.names 1
    · obtain ⟨j, hj, rfl⟩ := List.getElem_of_mem hm
      have hlt : ∀ i, i ∈ Ld.kindL p.names 1 → i < p.names.length := fun i hi => (Ld.kindL_at _ _ _ hi).1
      rw [Sc.reads_at _ _ _ (Ld.kindL_nodup _ _) hil (fun i hi => by rw [hls]; exact hlt i hi) j hj, Sc.reads_at _ _ _ (Ld.kindL_nodup _ _) hil (fun i hi => by rw [← h.li, hls]; exact hlt i hi) j hj]
    · rw [Sc.reads_other _ _ _ _ hm, Sc.reads_other _ _ _ _ hm]
      refine h.is k (fun n hn hk1 => hm ?_)
      obtain ⟨hkl, rfl⟩ := List.getElem?_eq_some_iff.1 hn
      unfold Ld.kindL Ld.placesTo
      rw [List.mem_filter]
      exact ⟨List.mem_range.2 hkl, by rw [List.getElem?_eq_getElem hkl]; simp [hk1]⟩
  have hf : ∀ (rs : List Ld.Rng), (∀ r, r ∈ rs → r ∈ p.rungs) → ∀ u, rs.foldl (Sc.doRung p.names s.is) u = rs.foldl (Sc.doRung p.names t.is) u := by
    intro rs
    induction rs with
    | nil => intro _ u; rfl
    | cons r rs ih =>
      intro hm u
      have e : Sc.doRung p.names s.is u r = Sc.doRung p.names t.is u r := by
        unfold Sc.doRung
        cases hx : r.cond with
        | none => rfl
        | some x =>
          simp only
          have hev : x.eval (Sc.told p.names u.is) (Sc.told p.names s.is) = x.eval (Sc.told p.names u.is) (Sc.told p.names t.is) := by
            refine Ex.eval_congr _ _ _ _ x (fun _ _ => rfl) (fun nm hn => ?_)
            obtain ⟨_, h2⟩ := mem_edges p hck r (hm r (by simp)) x hx nm hn
            unfold Sc.told
            rw [h.was _ h2]
          rw [hev]
      rw [List.foldl_cons, List.foldl_cons, e]
      exact ih (fun r hr => hm r (by simp [hr])) _
  unfold Sc.step
  rw [hr, h.ct, hf p.rungs (fun _ h => h)]
/-- a state of a program within its bounds, and the state of its number -/
theorem ok_bd (p : Ld.Prg) (s : Sc.St) (hb : Sc.Bd p s) : ∀ (k : Nat) x c, (parts p)[k]? = some x → s.ct[k]? = some c → okS x c := by
  intro k x c hx hc
  have hkl : k < p.names.length := by rw [← parts_len p]; exact (List.getElem?_eq_some_iff.1 hx).1
  rw [parts_at p k hkl] at hx
  cases hx
  obtain ⟨h1, h2, _⟩ := hb.at_ k hkl
  have hkc : k < s.ct.length := (List.getElem?_eq_some_iff.1 hc).1
  have e : s.ct.getD k 0 = c := by rw [List.getD_eq_getElem?_getD, hc]; rfl
  rw [e] at h1 h2
  intro h3
  unfold part at h3 ⊢
  rw [List.getElem?_eq_getElem hkl] at h3 ⊢
  simp only at h3 ⊢
  by_cases h4 : p.names[k].kind = 3 ∨ p.names[k].kind = 4
  · rw [if_pos h4]
    exact ⟨h1, by simp only; omega⟩
  · rw [if_neg h4] at h3
    exfalso
    split at h3
    · cases h3
    · split at h3 <;> cases h3
theorem alike_number (p : Ld.Prg) (hck : Ld.check p = none) (s : Sc.St) (hb : Sc.Bd p s) : Alike p s (state (parts p) (number (parts p) s.is s.ct)) := by
  have hok := ok_bd p s hb
  have hlp := parts_len p
  have hsn := state_number (parts p) s.is s.ct (parts_ok p) (by rw [hb.li, hlp]) (by rw [hb.lc, hlp]) hok
  have key : ∀ k (hk : k < p.names.length), (state (parts p) (number (parts p) s.is s.ct)).ct.getD k 0 = s.ct.getD k 0 ∧ (1 < (part p k).1 → (state (parts p) (number (parts p) s.is s.ct)).is.getD k false = s.is.getD k false) := by
    intro k hk
    have hki : k < s.is.length := by rw [hb.li]; exact hk
    have hkc : k < s.ct.length := by rw [hb.lc]; exact hk
    obtain ⟨h1, h2⟩ := hsn k (part p k) s.is[k] s.ct[k] (parts_at p k hk) (List.getElem?_eq_getElem hki) (List.getElem?_eq_getElem hkc)
    obtain ⟨b1, b2, b3⟩ := hb.at_ k hk
    obtain ⟨m1, m2, m3, m4⟩ := Sc.may p hck k hk
    have ei : s.is.getD k false = s.is[k] := by simp [hki]
    have ec : s.ct.getD k 0 = s.ct[k] := by simp [hkc]
    rw [ei] at b3
    rw [ec] at b1 b2 b3
    rw [ei, ec]
    have g1 : (state (parts p) (number (parts p) s.is s.ct)).is.getD k false = (decide (1 < (part p k).1) && decide (told (part p k) s.is[k] s.ct[k] = (part p k).1 - 1)) := by
      show (stateI _ _).getD k false = _
      rw [List.getD_eq_getElem?_getD, h1]; rfl
    have g2 : (state (parts p) (number (parts p) s.is s.ct)).ct.getD k 0 = (if (part p k).2 then ((told (part p k) s.is[k] s.ct[k] : Nat) : Int) else 0) := by
      show (stateC _ _).getD k 0 = _
      rw [List.getD_eq_getElem?_getD, h2]; rfl
    rw [g1, g2]
    generalize s.is[k] = i at *
    generalize s.ct[k] = c at *
    have hpt : part p k = if p.names[k].kind = 3 ∨ p.names[k].kind = 4 then (p.names[k].count.toNat + 1, true) else if p.names[k].kind = 2 then (2, false) else if (Ld.edges p).contains k then (2, false) else (1, false) := by
      unfold part; rw [List.getElem?_eq_getElem hk]
    by_cases h4 : p.names[k].kind = 3 ∨ p.names[k].kind = 4
    · rw [if_pos h4] at hpt
      have b4 := b3 (by omega)
      rw [hpt]
      refine ⟨by simp [told]; omega, fun h5 => ?_⟩
      rw [b4]
      simp only [told, if_true, Nat.add_sub_cancel]
      have m5 := (m3 (by omega)).1
      have : decide (1 < p.names[k].count.toNat + 1) = true := by simp; omega
      rw [this, Bool.true_and]
      rw [Bool.eq_iff_iff]
      simp
      omega
    · have hz := m4 (by omega)
      have hc0 : c = 0 := by omega
      have hp2 : part p k = (2, false) ∨ part p k = (1, false) := by
        rw [hpt, if_neg h4]
        split
        · exact .inl rfl
        · split
          · exact .inl rfl
          · exact .inr rfl
      rcases hp2 with e | e
      · rw [e]
        refine ⟨by simp [hc0], fun _ => ?_⟩
        cases i <;> simp [told]
      · rw [e]
        exact ⟨by simp [hc0], fun h5 => absurd h5 (by decide)⟩
  refine ⟨?_, ?_, ?_, ?_⟩
  · show _ = (stateI _ _).length; rw [stateI_len, hb.li, hlp]
  · apply List.ext_getElem
    · show _ = (stateC _ _).length; rw [stateC_len, hb.lc, hlp]
    · intro k h1 h2
      have hk : k < p.names.length := by rw [← hb.lc]; exact h1
      have := (key k hk).1
      simpa [h1, h2] using this.symm
  · intro k hk
    by_cases hkl : k < p.names.length
    · refine ((key k hkl).2 ?_).symm
      have h1 := hk _ (List.getElem?_eq_getElem hkl)
      obtain ⟨m1, m2, m3, m4⟩ := Sc.may p hck k hkl
      unfold part
      rw [List.getElem?_eq_getElem hkl]
      simp only
      by_cases h4 : p.names[k].kind = 3 ∨ p.names[k].kind = 4
      · rw [if_pos h4]; have := (m3 (by omega)).1; simp only; omega
      · rw [if_neg h4, if_pos (by omega)]; decide
    · have e1 : s.is.getD k false = false := by simp [hb.li, hkl]
      have e2 : (state (parts p) (number (parts p) s.is s.ct)).is.getD k false = false := by
        have : (state (parts p) (number (parts p) s.is s.ct)).is.length = p.names.length := by show (stateI _ _).length = _; rw [stateI_len, hlp]
        simp [this, hkl]
      rw [e1, e2]
  · intro k hk
    have hkl : k < p.names.length := by
      unfold Ld.edges Ld.placesTo at hk
      exact List.mem_range.1 (List.mem_filter.1 hk).1
    refine ((key k hkl).2 ?_).symm
    obtain ⟨m1, m2, m3, m4⟩ := Sc.may p hck k hkl
    unfold part
    rw [List.getElem?_eq_getElem hkl]
    simp only
    by_cases h4 : p.names[k].kind = 3 ∨ p.names[k].kind = 4
    · rw [if_pos h4]; have := (m3 (by omega)).1; simp only; omega
    · rw [if_neg h4]
      split
      · decide
      · rw [if_pos (by rw [List.contains_iff_mem]; exact hk)]; decide
end Mc
end
section
namespace Rf
/-- how many values name k's part has; 0: it has none -/
def part (p : Ld.Prg) (k : Nat) : Nat := match p.names[k]? with
  | some n => if 3 ≤ n.kind then (n.count + 1).toNat else if n.kind = 2 then 2 else if n.kind = 1 ∧ (Ld.edges p).contains k = true then 2 else 0
  | none => 0
/-- what a state has of name k -/
def val (p : Ld.Prg) (s : St) (k : Nat) : Nat := match p.names[k]? with
  | some n => if 3 ≤ n.kind then (s.ct n.name).toNat else if s.is n.name then 1 else 0
  | none => 0
/-- from the last part on -/
def number (p : Ld.Prg) (s : St) : Nat := (List.range p.names.length).foldr (fun k n => if part p k = 0 then n else n * part p k + val p s k) 0
theorem part_is (p : Ld.Prg) (hck : Ld.check p = none) (k : Nat) (hk : k < p.names.length) : (part p k = 0 ∧ Mc.part p k = (1, false)) ∨ (part p k ≠ 0 ∧ part p k = (Mc.part p k).1 ∧ 2 ≤ part p k ∧ ((Mc.part p k).2 = true ↔ 3 ≤ p.names[k].kind)) := by
  obtain ⟨h1, h2, h3, h4⟩ := Sc.may p hck k hk
  unfold part Mc.part
  rw [List.getElem?_eq_getElem hk]
  simp only
  by_cases hk3 : 3 ≤ p.names[k].kind
  · have h5 := (h3 hk3).1
    have c34 : p.names[k].kind = 3 ∨ p.names[k].kind = 4 := by omega
    rw [if_pos hk3, if_pos c34]
    refine .inr ⟨by omega, ?_, by omega, by simp [hk3]⟩
    show (p.names[k].count + 1).toNat = p.names[k].count.toNat + 1
    omega
  · have c34 : ¬ (p.names[k].kind = 3 ∨ p.names[k].kind = 4) := by omega
    rw [if_neg hk3, if_neg c34]
    by_cases hk2 : p.names[k].kind = 2
    · rw [if_pos hk2, if_pos hk2]
      exact .inr ⟨by omega, rfl, by omega, by simp [hk3]⟩
    · rw [if_neg hk2, if_neg hk2]
      by_cases he : (Ld.edges p).contains k = true
      · rw [if_pos ⟨by omega, he⟩, if_pos he]
        exact .inr ⟨by omega, rfl, by omega, by simp [hk3]⟩
      · rw [if_neg (fun h => he h.2), if_neg he]
        exact .inl ⟨rfl, rfl⟩
theorem val_is (p : Ld.Prg) (hck : Ld.check p = none) (s : Sc.St) (k : Nat) (hk : k < p.names.length) (h0 : part p k ≠ 0) : val p (of p.names s) k = Mc.told (Mc.part p k) (s.is.getD k false) (s.ct.getD k 0) := by
  have hn := number_self p hck k hk
  have e1 : (of p.names s).is p.names[k].name = s.is.getD k false := by
    have := told_at p.names s.is p.names[k].name (by omega)
    rw [hn, Int.toNat_natCast] at this
    exact this
  have e2 : (of p.names s).ct p.names[k].name = s.ct.getD k 0 := by
    have := toldC_at p.names s.ct p.names[k].name (by omega)
    rw [hn, Int.toNat_natCast] at this
    exact this
  rcases part_is p hck k hk with ⟨h1, _⟩ | ⟨_, h1, h2, h3⟩
  · exact absurd h1 h0
  · unfold val Mc.told
    rw [List.getElem?_eq_getElem hk]
    simp only
    rw [e1, e2]
    by_cases hk3 : 3 ≤ p.names[k].kind
    · rw [if_pos hk3, if_pos (h3.2 hk3)]
    · rw [if_neg hk3, if_neg (fun h => hk3 (h3.1 h))]
      have h4 : 1 < (Mc.part p k).1 := by omega
      simp [h4]
/-- from place j on -/
theorem number_from (p : Ld.Prg) (hck : Ld.check p = none) (s : Sc.St) : ∀ (m j : Nat), j + m = p.names.length → (List.range' j m).foldr (fun k n => if part p k = 0 then n else n * part p k + val p (of p.names s) k) 0 = Mc.number ((Mc.parts p).drop j) (s.is.drop j) (s.ct.drop j)
  | 0, j, h => by
    rw [List.drop_of_length_le (by rw [Mc.parts_len]; omega)]
    rfl
  | m + 1, j, h => by
    have hj : j < p.names.length := by omega
    have ih := number_from p hck s m (j + 1) (by omega)
    have hd : (Mc.parts p).drop j = Mc.part p j :: (Mc.parts p).drop (j + 1) := by
      rw [List.drop_eq_getElem_cons (by rw [Mc.parts_len]; exact hj)]
      congr 1
      have := Mc.parts_at p j hj
      rw [List.getElem?_eq_getElem (by rw [Mc.parts_len]; exact hj)] at this
      exact Option.some.inj this
    rw [List.range'_succ, List.foldr_cons, ih, hd]
    have e1 : (s.is.drop j).headD false = s.is.getD j false := by rw [List.headD_eq_head?_getD, List.head?_drop, List.getD_eq_getElem?_getD]
    have e2 : (s.ct.drop j).headD 0 = s.ct.getD j 0 := by rw [List.headD_eq_head?_getD, List.head?_drop, List.getD_eq_getElem?_getD]
    show _ = Mc.number ((Mc.parts p).drop (j + 1)) (s.is.drop j).tail (s.ct.drop j).tail * (Mc.part p j).1 + Mc.told (Mc.part p j) ((s.is.drop j).headD false) ((s.ct.drop j).headD 0)
    rw [e1, e2, List.tail_drop, List.tail_drop]
    rcases part_is p hck j hj with ⟨h1, h2⟩ | ⟨h1, h2, _⟩
    · rw [if_pos h1, h2]
      simp [Mc.told]
    · rw [if_neg h1, val_is p hck s j hj h1, h2]
/-- the document's number of a state is the machine's -/
theorem number_is (p : Ld.Prg) (hck : Ld.check p = none) (s : Sc.St) : number p (of p.names s) = Mc.number (Mc.parts p) s.is s.ct := by
  have h := number_from p hck s p.names.length 0 (by omega)
  rw [List.drop_zero, List.drop_zero, List.drop_zero, ← List.range_eq_range'] at h
  exact h
/-- a part's value is put into a state -/
def put (p : Ld.Prg) (k v : Nat) (s : St) : St := match p.names[k]? with
  | some n => if 3 ≤ n.kind then ⟨upd s.is n.name ((v : Int) == n.count), upd s.ct n.name (v : Int)⟩ else ⟨upd s.is n.name (v == 1), s.ct⟩
  | none => s
/-- part by part, from the first one on -/
def stateF (p : Ld.Prg) : List Nat → Nat → St → St
  | [], _, s => s
  | k :: ks, n, s => if part p k = 0 then stateF p ks n s else stateF p ks (n / part p k) (put p k (n % part p k) s)
def state (p : Ld.Prg) (n : Nat) : St := stateF p (List.range p.names.length) n start
theorem set_mid {α : Type} (a : List α) (z v : α) (m : Nat) : (a ++ List.replicate (m + 1) z).set a.length v = (a ++ [v]) ++ List.replicate m z := by
  rw [List.set_append_right _ _ (Nat.le_refl _), Nat.sub_self, List.replicate_succ, List.set_cons_zero, List.append_assoc]
  rfl
theorem of_put (p : Ld.Prg) (hck : Ld.check p = none) (k v : Nat) (hk : k < p.names.length) (s : Sc.St) (h1 : s.is.length = p.names.length) (h2 : s.ct.length = p.names.length) : put p k v (of p.names s) = of p.names ⟨s.is.set k (if 3 ≤ p.names[k].kind then (v : Int) == p.names[k].count else v == 1), if 3 ≤ p.names[k].kind then s.ct.set k (v : Int) else s.ct⟩ := by
  have hn := number_self p hck k hk
  have e1 : ∀ b, Sc.told p.names (s.is.set k b) = upd (Sc.told p.names s.is) p.names[k].name b := fun b => by
    have := told_set p.names s.is p.names[k].name b (by omega) h1
    rw [hn, Int.toNat_natCast] at this
    exact this
  have e2 : ∀ c, toldC p.names (s.ct.set k c) = upd (toldC p.names s.ct) p.names[k].name c := fun c => by
    have := toldC_set p.names s.ct p.names[k].name c (by omega) h2
    rw [hn, Int.toNat_natCast] at this
    exact this
  unfold put
  rw [List.getElem?_eq_getElem hk]
  simp only
  by_cases h3 : 3 ≤ p.names[k].kind
  · simp only [if_pos h3, of, e1, e2]
  · simp only [if_neg h3, of, e1]
/-- behind the first j names, the others still nothing -/
theorem state_from (p : Ld.Prg) (hck : Ld.check p = none) : ∀ (m j n : Nat) (a : List Bool) (c : List Int), j + m = p.names.length → a.length = j → c.length = j → stateF p (List.range' j m) n (of p.names ⟨a ++ List.replicate m false, c ++ List.replicate m 0⟩) = of p.names ⟨a ++ Mc.stateI ((Mc.parts p).drop j) n, c ++ Mc.stateC ((Mc.parts p).drop j) n⟩
  | 0, j, n, a, c, h, ha, hc => by
    rw [List.drop_of_length_le (by rw [Mc.parts_len]; omega)]
    rfl
  | m + 1, j, n, a, c, h, ha, hc => by
    have hj : j < p.names.length := by omega
    have hd : (Mc.parts p).drop j = Mc.part p j :: (Mc.parts p).drop (j + 1) := by
      rw [List.drop_eq_getElem_cons (by rw [Mc.parts_len]; exact hj)]
      congr 1
      have := Mc.parts_at p j hj
      rw [List.getElem?_eq_getElem (by rw [Mc.parts_len]; exact hj)] at this
      exact Option.some.inj this
    rw [hd, List.range'_succ]
    unfold stateF Mc.stateI Mc.stateC
    rcases part_is p hck j hj with ⟨h1, h2⟩ | ⟨h1, h2, h3, h4⟩
    · have ih := state_from p hck m (j + 1) n (a ++ [false]) (c ++ [0]) (by omega) (by simp [ha]) (by simp [hc])
      rw [if_pos h1, h2]
      rw [List.append_assoc, List.append_assoc, List.append_assoc, List.append_assoc] at ih
      simpa [List.replicate_succ] using ih
    · have h5 := Sc.may p hck j hj
      rw [if_neg h1, of_put p hck j _ hj _ (by simp [ha]; omega) (by simp [hc]; omega)]
      have e1 : ∀ b, (a ++ List.replicate (m + 1) false).set j b = (a ++ [b]) ++ List.replicate m false := fun b => by have := set_mid a false b m; rw [ha] at this; exact this
      have e2 : ∀ b, (c ++ List.replicate (m + 1) (0 : Int)).set j b = (c ++ [b]) ++ List.replicate m 0 := fun b => by have := set_mid c (0 : Int) b m; rw [hc] at this; exact this
      have e3 : c ++ List.replicate (m + 1) (0 : Int) = (c ++ [0]) ++ List.replicate m 0 := by rw [List.replicate_succ, List.append_assoc]; rfl
      simp only [e1]
      by_cases hk3 : 3 ≤ p.names[j].kind
      · have hp2 : (Mc.part p j).2 = true := h4.2 hk3
        have hcnt : ((part p j : Nat) : Int) = p.names[j].count + 1 := by
          have h6 := (h5.2.2.1 hk3).1
          unfold part
          rw [List.getElem?_eq_getElem hj]
          simp only
          rw [if_pos hk3]
          omega
        have ih := state_from p hck m (j + 1) (n / part p j) (a ++ [((n % part p j : Nat) : Int) == p.names[j].count]) (c ++ [((n % part p j : Nat) : Int)]) (by omega) (by simp [ha]) (by simp [hc])
        simp only [if_pos hk3, e2]
        rw [ih, ← h2, hp2]
        have eb : (decide (1 < part p j) && decide (n % part p j = part p j - 1)) = (((n % part p j : Nat) : Int) == p.names[j].count) := by
          rw [Bool.eq_iff_iff]
          simp only [Bool.and_eq_true, decide_eq_true_eq, beq_iff_eq]
          omega
        rw [eb]
        simp
      · have hp2 : (Mc.part p j).2 = false := by
          cases h6 : (Mc.part p j).2 with
          | false => rfl
          | true => exact absurd (h4.1 h6) hk3
        have hle : part p j ≤ 2 := by
          have := (Mc.part_ok p j).2 hp2
          omega
        have ih := state_from p hck m (j + 1) (n / part p j) (a ++ [n % part p j == 1]) (c ++ [0]) (by omega) (by simp [ha]) (by simp [hc])
        simp only [if_neg hk3]
        rw [e3, ih, ← h2, hp2]
        have eb : (decide (1 < part p j) && decide (n % part p j = part p j - 1)) = (n % part p j == 1) := by
          rw [Bool.eq_iff_iff]
          simp only [Bool.and_eq_true, decide_eq_true_eq, beq_iff_eq]
          omega
        rw [eb]
        simp
/-- the document's state of a number is the machine's -/
theorem state_is (p : Ld.Prg) (hck : Ld.check p = none) (n : Nat) : state p n = of p.names (Mc.state (Mc.parts p) n) := by
  have h := state_from p hck p.names.length 0 n [] [] (by omega) rfl rfl
  rw [List.drop_zero, ← List.range_eq_range'] at h
  unfold state
  rw [← of_start p]
  exact h
end Rf
end
section
def bitB (x : Int) (k : Nat) : Bool := bits BinOp.and .i64 (x / 2 ^ k) 1 == 1
def bitsTo (x : Int) (k : Nat) : List Bool := (List.range k).map (bitB x)
theorem bitsTo_len (x : Int) (k : Nat) : (bitsTo x k).length = k := by simp [bitsTo]
theorem bitsTo_succ (x : Int) (k : Nat) : bitsTo x (k + 1) = bitsTo x k ++ [bitB x k] := by simp [bitsTo, List.range_succ]
namespace Mc
theorem bits_one (a : Int) : bits BinOp.and .i64 a 1 = a % 2 := by
  show IntKind.i64.wrap ((BitVec.ofInt 64 a &&& BitVec.ofInt 64 1).toNat : Int) = _
  have h1 : (BitVec.ofInt 64 1).toNat = 1 := by decide
  rw [BitVec.toNat_and, h1, Nat.and_one_is_mod, BitVec.toNat_ofInt]
  have h2 : (((a % ((2 ^ 64 : Nat) : Int)).toNat % 2 : Nat) : Int) = a % 2 := by
    have : (0 : Int) ≤ a % ((2 ^ 64 : Nat) : Int) := Int.emod_nonneg _ (by decide)
    omega
  rw [h2, IntKind.wrap_i64]
  have h3 := Int.emod_nonneg a (show (2 : Int) ≠ 0 by decide)
  have h4 := Int.emod_lt_of_pos a (show (0 : Int) < 2 by decide)
  omega
theorem bitB_eq (x : Int) (k : Nat) : bitB x k = decide (x / 2 ^ k % 2 = 1) := by
  unfold bitB
  rw [bits_one]
  rfl
theorem bitB_mod (x : Int) (q k : Nat) (hk : k < q) : bitB (x % 2 ^ q) k = bitB x k := by
  rw [bitB_eq, bitB_eq]
  have h : x % 2 ^ q / 2 ^ k % 2 = x / 2 ^ k % 2 := by
    obtain ⟨d, rfl⟩ : ∃ d, q = k + 1 + d := ⟨q - (k + 1), by omega⟩
    have e : (2 : Int) ^ (k + 1 + d) = 2 ^ k * (2 * 2 ^ d) := by rw [Int.pow_add, Int.pow_succ, Int.mul_assoc]
    rw [e]
    have hp : (0 : Int) < 2 ^ k := Int.pow_pos (by decide)
    have hx := Int.emod_add_mul_ediv x (2 ^ k * (2 * 2 ^ d))
    generalize x / (2 ^ k * (2 * 2 ^ d)) = c at hx
    generalize x % (2 ^ k * (2 * 2 ^ d)) = r at hx ⊢
    rw [← hx, show r + 2 ^ k * (2 * 2 ^ d) * c = r + 2 ^ k * (2 * (2 ^ d * c)) by rw [Int.mul_assoc, Int.mul_assoc], Int.add_mul_ediv_left _ _ (by omega)]
    omega
  rw [h]
theorem bitsTo_mod (x : Int) (q : Nat) : bitsTo (x % 2 ^ q) q = bitsTo x q := by
  unfold bitsTo
  apply List.map_congr_left
  intro k hk
  exact bitB_mod x q k (List.mem_range.1 hk)
/-- bools as a number: bit k is the k-th -/
def val : List Bool → Nat
  | [] => 0
  | b :: r => (if b then 1 else 0) + 2 * val r
theorem val_lt : ∀ l : List Bool, val l < 2 ^ l.length
  | [] => by simp [val]
  | b :: r => by
    have := val_lt r
    simp only [val, List.length_cons, Nat.pow_succ]
    split <;> omega
theorem val_snoc : ∀ (l : List Bool) (b : Bool), val (l ++ [b]) = val l + (if b then 2 ^ l.length else 0)
  | [], b => by simp [val]
  | a :: r, b => by
    rw [List.cons_append, val, val, val_snoc r b, List.length_cons, Nat.pow_succ]
    split <;> split <;> omega
theorem val_bit : ∀ (l : List Bool) (k : Nat), bitB (val l : Int) k = l.getD k false
  | [], k => by rw [bitB_eq]; simp [val]
  | b :: r, 0 => by
    rw [bitB_eq]
    cases b <;> simp [val] <;> omega
  | b :: r, k + 1 => by
    have ih := val_bit r k
    rw [bitB_eq] at ih ⊢
    have e : ((val (b :: r) : Nat) : Int) / 2 ^ (k + 1) = (val r : Int) / 2 ^ k := by
      rw [Int.pow_succ, Int.mul_comm, ← Int.ediv_ediv_of_nonneg (by decide)]
      congr 1
      cases b <;> simp [val] <;> omega
    rw [e]
    simpa using ih
theorem val_back (l : List Bool) : bitsTo (val l) l.length = l := by
  apply ext_getD (by rw [bitsTo_len])
  intro k hk
  rw [bitsTo_len] at hk
  rw [← val_bit l k]
  simp [bitsTo, hk]
theorem or_pow (v k : Nat) (hv : v < 2 ^ k) (hk : k < 62) : bits BinOp.or .i64 (v : Int) (2 ^ k : Nat) = ((v + 2 ^ k : Nat) : Int) := by
  have hp : 2 ^ k ≤ 2 ^ 61 := Nat.pow_le_pow_right (by decide) (by omega)
  have h1 : (BitVec.ofInt 64 (v : Int)).toNat = v := by
    rw [BitVec.ofInt_natCast, BitVec.toNat_ofNat]; exact Nat.mod_eq_of_lt (by omega)
  have h2 : (BitVec.ofInt 64 ((2 ^ k : Nat) : Int)).toNat = 2 ^ k := by
    rw [BitVec.ofInt_natCast, BitVec.toNat_ofNat]; exact Nat.mod_eq_of_lt (by omega)
  show IntKind.i64.wrap ((BitVec.ofInt 64 (v : Int) ||| BitVec.ofInt 64 ((2 ^ k : Nat) : Int)).toNat : Int) = _
  have h3 : v ||| 2 ^ k = v + 2 ^ k := by
    have := Nat.two_pow_add_eq_or_of_lt hv 1
    rw [Nat.mul_one] at this
    rw [Nat.or_comm, ← this, Nat.add_comm]
  rw [BitVec.toNat_or, h1, h2, h3, IntKind.wrap_i64]
  omega
end Mc
end
section
open Go.RowKit
def boolV (b : Bool) : Value := .bool b
def iV (k : Int) : Value := .int .i64 k
/-- all that is old stands, but for two rows -/
structure Two (gi gc : Nat) (w w' : World) : Prop where
  os : w'.os = w.os
  tape : w'.tape = w.tape
  output : w'.output = w.output
  size : w.heap.size ≤ w'.heap.size
  block : ∀ k, k < w.heap.size → k ≠ gi → k ≠ gc → w'.heap[k]? = w.heap[k]?
theorem Two.refl (gi gc : Nat) (w : World) : Two gi gc w w := ⟨rfl, rfl, rfl, Nat.le_refl _, fun _ _ _ _ => rfl⟩
theorem Two.trans {gi gc : Nat} {A B C : World} (h : Two gi gc A B) (k : Two gi gc B C) : Two gi gc A C :=
  ⟨k.os.trans h.os, k.tape.trans h.tape, k.output.trans h.output, Nat.le_trans h.size k.size, fun i h1 h2 h3 => (k.block i (Nat.lt_of_lt_of_le h1 h.size) h2 h3).trans (h.block i h1 h2 h3)⟩
theorem Two.below {gi gc : Nat} {w w' : World} (h : Below w.heap.size w w') : Two gi gc w w' := ⟨h.os, h.tape, h.output, h.size, fun k hk _ _ => h.block k hk⟩
theorem Two.setI {gi gc : Nat} (w : World) (i : Nat) (v : Value) : Two gi gc w (w.setCell ⟨gi, i, none⟩ v) := ⟨rfl, rfl, rfl, by simp [World.setCell], fun k _ h _ => Below.heap_setCell _ _ _ _ (fun e => h e)⟩
theorem Two.setC {gi gc : Nat} (w : World) (i : Nat) (v : Value) : Two gi gc w (w.setCell ⟨gc, i, none⟩ v) := ⟨rfl, rfl, rfl, by simp [World.setCell], fun k _ _ h => Below.heap_setCell _ _ _ _ (fun e => h e)⟩
theorem upto12 {P : Nat → Prop} (h0 : P 0) (h1 : P 1) (h2 : P 2) (h3 : P 3) (h4 : P 4) (h5 : P 5) (h6 : P 6) (h7 : P 7) (h8 : P 8) (h9 : P 9) (h10 : P 10) (h11 : P 11) (h12 : P 12) (n : Nat) (hn : n ≤ 12) : P n := by
  rcases (show n = 0 ∨ n = 1 ∨ n = 2 ∨ n = 3 ∨ n = 4 ∨ n = 5 ∨ n = 6 ∨ n = 7 ∨ n = 8 ∨ n = 9 ∨ n = 10 ∨ n = 11 ∨ n = 12 by omega) with rfl | rfl | rfl | rfl | rfl | rfl | rfl | rfl | rfl | rfl | rfl | rfl | rfl <;> assumption
theorem makeB (w : World) : ∀ n : Nat, n ≤ 12 → (Instr.makeSlice 51 (.int .i64 (n : Int)) (.int .i64 (n : Int))).run Tryz.prog w = .ok (.slice (some ⟨w.heap.size, 0, none⟩) n n) (w.alloc (.cells ⟨(List.replicate n false).map boolV⟩ 4)) := by
  apply upto12 <;> kernel_rfl
end
end Go.Proofs.YtgldbliohpfljaaGreatDoor
