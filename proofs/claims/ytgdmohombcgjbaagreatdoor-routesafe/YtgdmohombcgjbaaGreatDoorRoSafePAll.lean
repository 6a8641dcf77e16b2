/-
  Plain mathematics of chapter 4: states as numbers. Nothing of the program is named here. Plain mathematics of chapter 11: the machine of a table's program is safe, scan by scan.
-/
import Derived.Test.YtgdmohombcgjbaaGreatDoorScBoundAll
import Derived.Test.YtgdmohombcgjbaaGreatDoorLdMathAll
import Derived.Test.YtgdmohombcgjbaaGreatDoorRoSfEAll
namespace Go.Proofs.YtgdmohombcgjbaaGreatDoor
section
namespace Mc
/-- what a state's number has of name k: how many there are, and is it counted? -/
def part (p : Ld.Prg) (k : Nat) : Nat × Bool :=
  match p.names[k]? with
  | some n => if n.kind = 3 ∨ n.kind = 4 then (n.count.toNat + 1, true) else if n.kind = 2 then (2, false) else if (Ld.edges p).contains k then (2, false) else (1, false)
  | none => (1, false)
def parts (p : Ld.Prg) : List (Nat × Bool) := (List.range p.names.length).map (part p)
theorem parts_len (p : Ld.Prg) : (parts p).length = p.names.length := by simp [parts]
theorem parts_at (p : Ld.Prg) (k : Nat) (hk : k < p.names.length) : (parts p)[k]? = some (part p k) := by simp [parts, hk]
def told (x : Nat × Bool) (is : Bool) (ct : Int) : Nat := if x.2 then ct.toNat else if is && decide (1 < x.1) then 1 else 0
/-- the number of a state: the first part counts the least -/
def number : List (Nat × Bool) → List Bool → List Int → Nat
  | [], _, _ => 0
  | x :: r, is, ct => number r is.tail ct.tail * x.1 + told x (is.headD false) (ct.headD 0)
def total (l : List (Nat × Bool)) : Nat := l.foldr (fun x n => x.1 * n) 1
def stateI : List (Nat × Bool) → Nat → List Bool
  | [], _ => []
  | x :: r, n => (decide (1 < x.1) && decide (n % x.1 = x.1 - 1)) :: stateI r (n / x.1)
def stateC : List (Nat × Bool) → Nat → List Int
  | [], _ => []
  | x :: r, n => (if x.2 then ((n % x.1 : Nat) : Int) else 0) :: stateC r (n / x.1)
def state (l : List (Nat × Bool)) (n : Nat) : Sc.St := ⟨stateI l n, stateC l n⟩
theorem stateI_len : ∀ (l : List (Nat × Bool)) (n : Nat), (stateI l n).length = l.length
  | [], _ => rfl
  | x :: r, n => by simp [stateI, stateI_len r]
theorem stateC_len : ∀ (l : List (Nat × Bool)) (n : Nat), (stateC l n).length = l.length
  | [], _ => rfl
  | x :: r, n => by simp [stateC, stateC_len r]
/-- a part is well: at least one; what is not counted is of one or two -/
def okP (x : Nat × Bool) : Prop := 1 ≤ x.1 ∧ (x.2 = false → x.1 ≤ 2)
theorem part_ok (p : Ld.Prg) (k : Nat) : okP (part p k) := by
  unfold part okP
  repeat' split
  all_goals simp
theorem parts_ok (p : Ld.Prg) : ∀ x, x ∈ parts p → okP x := by
  intro x hx
  obtain ⟨k, _, rfl⟩ := List.mem_map.1 hx
  exact part_ok p k
theorem total_pos : ∀ (l : List (Nat × Bool)), (∀ x, x ∈ l → okP x) → 1 ≤ total l
  | [], _ => by simp [total]
  | x :: r, h => by
    have h1 := total_pos r (fun y hy => h y (by simp [hy]))
    have h2 := (h x (by simp)).1
    show 1 ≤ x.1 * total r
    exact Nat.mul_le_mul h2 h1
/-- the number of a number's state is that number -/
theorem number_state : ∀ (l : List (Nat × Bool)) (n : Nat), (∀ x, x ∈ l → okP x) → n < total l → number l (stateI l n) (stateC l n) = n
  | [], n, _, hn => by simp [total] at hn; subst hn; rfl
  | x :: r, n, h, hn => by
    obtain ⟨h1, h2⟩ := h x (by simp)
    have hlt : n / x.1 < total r := by
      rw [Nat.div_lt_iff_lt_mul (by omega), Nat.mul_comm]; exact hn
    have ih := number_state r (n / x.1) (fun y hy => h y (by simp [hy])) hlt
    show number r (stateI r (n / x.1)) (stateC r (n / x.1)) * x.1 + told x (decide (1 < x.1) && decide (n % x.1 = x.1 - 1)) (if x.2 then ((n % x.1 : Nat) : Int) else 0) = n
    rw [ih]
    have ht : told x (decide (1 < x.1) && decide (n % x.1 = x.1 - 1)) (if x.2 then ((n % x.1 : Nat) : Int) else 0) = n % x.1 := by
      unfold told
      cases hx : x.2 with
      | true => simp only [if_true]; omega
      | false =>
        have h3 := h2 hx
        have h4 : n % x.1 < x.1 := Nat.mod_lt _ (by omega)
        by_cases h5 : 1 < x.1
        · have e : x.1 = 2 := by omega
          rw [e] at h4 ⊢
          by_cases h6 : n % 2 = 1
          · simp [h6]
          · have : n % 2 = 0 := by omega
            simp [this]
        · have e : x.1 = 1 := by omega
          rw [e]
          simp [Nat.mod_one]
    rw [ht]
    have := Nat.div_add_mod n x.1
    rw [Nat.mul_comm] at this
    exact this
/-- a part and what it is of: a count below how many there are -/
def okS (x : Nat × Bool) (ct : Int) : Prop := x.2 = true → 0 ≤ ct ∧ ct.toNat < x.1
theorem told_lt (x : Nat × Bool) (is : Bool) (ct : Int) (hx : okP x) (hs : okS x ct) : told x is ct < x.1 := by
  obtain ⟨h1, h2⟩ := hx
  unfold told
  cases h : x.2 with
  | true => simp; exact (hs h).2
  | false =>
    simp only [Bool.false_eq_true, if_false]
    split
    · rename_i h3; simp at h3; exact h3.2
    · omega
theorem number_cons (x : Nat × Bool) (r : List (Nat × Bool)) (i : Bool) (is : List Bool) (c : Int) (ct : List Int) : number (x :: r) (i :: is) (c :: ct) = number r is ct * x.1 + told x i c := rfl
theorem number_lt : ∀ (l : List (Nat × Bool)) (is : List Bool) (ct : List Int), (∀ x, x ∈ l → okP x) → is.length = l.length → ct.length = l.length → (∀ (k : Nat) x c, l[k]? = some x → ct[k]? = some c → okS x c) → number l is ct < total l
  | [], _, _, _, _, _, _ => by simp [number, total]
  | x :: r, [], _, _, h, _, _ => by simp at h
  | x :: r, _ :: _, [], _, _, h, _ => by simp at h
  | x :: r, i :: is, c :: ct, h, h1, h2, h3 => by
    have ih := number_lt r is ct (fun y hy => h y (by simp [hy])) (by simpa using h1) (by simpa using h2) (fun k x c hx hc => h3 (k + 1) x c (by simpa using hx) (by simpa using hc))
    have ht := told_lt x i c (h x (by simp)) (h3 0 x c rfl rfl)
    rw [number_cons]
    show _ < x.1 * total r
    have h4 : (number r is ct + 1) * x.1 ≤ total r * x.1 := Nat.mul_le_mul_right _ ih
    rw [Nat.add_mul, Nat.one_mul] at h4
    rw [Nat.mul_comm x.1]
    omega
/-- what a number's state has: where the number is a state's -/
theorem state_number : ∀ (l : List (Nat × Bool)) (is : List Bool) (ct : List Int), (∀ x, x ∈ l → okP x) → is.length = l.length → ct.length = l.length → (∀ (k : Nat) x c, l[k]? = some x → ct[k]? = some c → okS x c) →
    ∀ (k : Nat) (x : Nat × Bool) (i : Bool) (c : Int), l[k]? = some x → is[k]? = some i → ct[k]? = some c →
      (stateI l (number l is ct))[k]? = some (decide (1 < x.1) && decide (told x i c = x.1 - 1)) ∧ (stateC l (number l is ct))[k]? = some (if x.2 then ((told x i c : Nat) : Int) else 0)
  | [], _, _, _, _, _, _, k, x, i, c, hx, _, _ => by simp at hx
  | x :: r, [], _, _, h, _, _, _, _, _, _, _, _, _ => by simp at h
  | x :: r, _ :: _, [], _, _, h, _, _, _, _, _, _, _, _ => by simp at h
  | x :: r, i :: is, c :: ct, h, h1, h2, h3, k, y, j, d, hy, hj, hd => by
    have hx := h x (by simp)
    have ht := told_lt x i c hx (h3 0 x c rfl rfl)
    have e1 : number (x :: r) (i :: is) (c :: ct) % x.1 = told x i c := by
      rw [number_cons, Nat.add_comm, Nat.add_mul_mod_self_right, Nat.mod_eq_of_lt ht]
    have e2 : number (x :: r) (i :: is) (c :: ct) / x.1 = number r is ct := by
      rw [number_cons, Nat.add_comm, Nat.add_mul_div_right _ _ (by omega), Nat.div_eq_of_lt ht, Nat.zero_add]
    cases k with
    | zero =>
      simp only [List.getElem?_cons_zero, Option.some.injEq] at hy hj hd
      subst hy; subst hj; subst hd
      simp only [stateI, stateC, List.getElem?_cons_zero, e1]
      exact ⟨trivial, trivial⟩
    | succ k =>
      simp only [stateI, stateC, List.getElem?_cons_succ, e2]
      exact state_number r is ct (fun y hy => h y (by simp [hy])) (by simpa using h1) (by simpa using h2) (fun k x c hx hc => h3 (k + 1) x c (by simpa using hx) (by simpa using hc)) k y j d (by simpa using hy) (by simpa using hj) (by simpa using hd)
/-- two states between which no scan tells a difference -/
structure Alike (p : Ld.Prg) (s t : Sc.St) : Prop where
  li : s.is.length = t.is.length
  ct : s.ct = t.ct
  is : ∀ k, (∀ n, p.names[k]? = some n → n.kind ≠ 1) → s.is.getD k false = t.is.getD k false
  was : ∀ k, k ∈ Ld.edges p → s.is.getD k false = t.is.getD k false
theorem ext_getD {a b : List Bool} (hl : a.length = b.length) (h : ∀ k, k < a.length → a.getD k false = b.getD k false) : a = b := by
  apply List.ext_getElem hl
  intro k h1 h2
  have := h k h1
  simpa [h1, h2] using this
theorem mem_edges (p : Ld.Prg) (hck : Ld.check p = none) (r : Ld.Rng) (hr : r ∈ p.rungs) (x : Ex) (hx : r.cond = some x) (nm : List UInt8) (hn : nm ∈ x.named false) : 0 ≤ Ld.number p.names nm ∧ (Ld.number p.names nm).toNat ∈ Ld.edges p := by
  obtain ⟨_, _, _, _, y, hy, hk⟩ := Ld.check_rungs p hck r hr
  rw [hx] at hy
  cases hy
  unfold Ld.known at hk
  rw [List.all_eq_true] at hk
  have h0 : 0 ≤ Ld.number p.names nm := by simpa using hk nm (Ex.edges_names x nm hn)
  refine ⟨h0, ?_⟩
  rcases Ld.number_cases p.names nm with ⟨h1, _⟩ | ⟨k, hk2, h1, h2, _⟩
  · omega
  · rw [h1]
    unfold Ld.edges Ld.placesTo
    rw [List.mem_filter]
    refine ⟨List.mem_range.2 (by omega), ?_⟩
    rw [show ((k : Int)).toNat = k by omega, List.getElem?_eq_getElem hk2]
    simp only
    rw [List.contains_iff_mem, h2]
    unfold Ld.asked
    exact List.mem_flatten.2 ⟨_, List.mem_map.2 ⟨r, hr, rfl⟩, by rw [Ld.asksR, hx]; exact hn⟩
theorem alike_step (p : Ld.Prg) (hck : Ld.check p = none) (s t : Sc.St) (inp : List Bool) (h : Alike p s t) (hls : s.is.length = p.names.length) (hil : inp.length = (Ld.kindL p.names 1).length) : Sc.step p s inp = Sc.step p t inp := by
  have hr : Sc.reads (Ld.kindL p.names 1) inp s.is = Sc.reads (Ld.kindL p.names 1) inp t.is := by
    apply ext_getD (by rw [Sc.reads_len, Sc.reads_len]; exact h.li)
    intro k hk
    rw [Sc.reads_len] at hk
    by_cases hm : k ∈ Ld.kindL p.names 1
    · obtain ⟨j, hj, rfl⟩ := List.getElem_of_mem hm
      have hlt : ∀ i, i ∈ Ld.kindL p.names 1 → i < p.names.length := fun i hi => (Ld.kindL_at _ _ _ hi).1
      rw [Sc.reads_at _ _ _ (Ld.kindL_nodup _ _) hil (fun i hi => by rw [hls]; exact hlt i hi) j hj, Sc.reads_at _ _ _ (Ld.kindL_nodup _ _) hil (fun i hi => by rw [← h.li, hls]; exact hlt i hi) j hj]
    · rw [Sc.reads_other _ _ _ _ hm, Sc.reads_other _ _ _ _ hm]
      refine h.is k (fun n hn hk1 => hm ?_)
      obtain ⟨hkl, rfl⟩ := List.getElem?_eq_some_iff.1 hn
      unfold Ld.kindL Ld.placesTo
      rw [List.mem_filter]
      exact ⟨List.mem_range.2 hkl, by rw [List.getElem?_eq_getElem hkl]; simp [hk1]⟩
  have hf : ∀ (rs : List Ld.Rng), (∀ r, r ∈ rs → r ∈ p.rungs) → ∀ u, rs.foldl (Sc.doRung p.names s.is) u = rs.foldl (Sc.doRung p.names t.is) u := by
    intro rs
    induction rs with
    | nil => intro _ u; rfl
    | cons r rs ih =>
      intro hm u
      have e : Sc.doRung p.names s.is u r = Sc.doRung p.names t.is u r := by
        unfold Sc.doRung
        cases hx : r.cond with
        | none => rfl
        | some x =>
          simp only
          have hev : x.eval (Sc.told p.names u.is) (Sc.told p.names s.is) = x.eval (Sc.told p.names u.is) (Sc.told p.names t.is) := by
            refine Ex.eval_congr _ _ _ _ x (fun _ _ => rfl) (fun nm hn => ?_)
            obtain ⟨_, h2⟩ := mem_edges p hck r (hm r (by simp)) x hx nm hn
            unfold Sc.told
            rw [h.was _ h2]
          rw [hev]
      rw [List.foldl_cons, List.foldl_cons, e]
      exact ih (fun r hr => hm r (by simp [hr])) _
  unfold Sc.step
  rw [hr, h.ct, hf p.rungs (fun _ h => h)]
/-- a state of a program within its bounds, and the state of its number -/
theorem ok_bd (p : Ld.Prg) (s : Sc.St) (hb : Sc.Bd p s) : ∀ (k : Nat) x c, (parts p)[k]? = some x → s.ct[k]? = some c → okS x c := by
  intro k x c hx hc
  have hkl : k < p.names.length := by rw [← parts_len p]; exact (List.getElem?_eq_some_iff.1 hx).1
  rw [parts_at p k hkl] at hx
  cases hx
  obtain ⟨h1, h2, _⟩ := hb.at_ k hkl
  have hkc : k < s.ct.length := (List.getElem?_eq_some_iff.1 hc).1
  have e : s.ct.getD k 0 = c := by rw [List.getD_eq_getElem?_getD, hc]; rfl
  rw [e] at h1 h2
  intro h3
  unfold part at h3 ⊢
  rw [List.getElem?_eq_getElem hkl] at h3 ⊢
  simp only at h3 ⊢
  by_cases h4 : p.names[k].kind = 3 ∨ p.names[k].kind = 4
  · rw [if_pos h4]
    exact ⟨h1, by simp only; omega⟩
  · rw [if_neg h4] at h3
    exfalso
    split at h3
    · cases h3
    · split at h3 <;> cases h3
theorem alike_number (p : Ld.Prg) (hck : Ld.check p = none) (s : Sc.St) (hb : Sc.Bd p s) : Alike p s (state (parts p) (number (parts p) s.is s.ct)) := by
  have hok := ok_bd p s hb
  have hlp := parts_len p
  have hsn := state_number (parts p) s.is s.ct (parts_ok p) (by rw [hb.li, hlp]) (by rw [hb.lc, hlp]) hok
  have key : ∀ k (hk : k < p.names.length), (state (parts p) (number (parts p) s.is s.ct)).ct.getD k 0 = s.ct.getD k 0 ∧ (1 < (part p k).1 → (state (parts p) (number (parts p) s.is s.ct)).is.getD k false = s.is.getD k false) := by
    intro k hk
    have hki : k < s.is.length := by rw [hb.li]; exact hk
    have hkc : k < s.ct.length := by rw [hb.lc]; exact hk
    obtain ⟨h1, h2⟩ := hsn k (part p k) s.is[k] s.ct[k] (parts_at p k hk) (List.getElem?_eq_getElem hki) (List.getElem?_eq_getElem hkc)
    obtain ⟨b1, b2, b3⟩ := hb.at_ k hk
    obtain ⟨m1, m2, m3, m4⟩ := Sc.may p hck k hk
    have ei : s.is.getD k false = s.is[k] := by simp [hki]
    have ec : s.ct.getD k 0 = s.ct[k] := by simp [hkc]
    rw [ei] at b3
    rw [ec] at b1 b2 b3
    rw [ei, ec]
    have g1 : (state (parts p) (number (parts p) s.is s.ct)).is.getD k false = (decide (1 < (part p k).1) && decide (told (part p k) s.is[k] s.ct[k] = (part p k).1 - 1)) := by
      show (stateI _ _).getD k false = _
      rw [List.getD_eq_getElem?_getD, h1]; rfl
    have g2 : (state (parts p) (number (parts p) s.is s.ct)).ct.getD k 0 = (if (part p k).2 then ((told (part p k) s.is[k] s.ct[k] : Nat) : Int) else 0) := by
      show (stateC _ _).getD k 0 = _
      rw [List.getD_eq_getElem?_getD, h2]; rfl
    rw [g1, g2]
    generalize s.is[k] = i at *
    generalize s.ct[k] = c at *
    have hpt : part p k = if p.names[k].kind = 3 ∨ p.names[k].kind = 4 then (p.names[k].count.toNat + 1, true) else if p.names[k].kind = 2 then (2, false) else if (Ld.edges p).contains k then (2, false) else (1, false) := by
      unfold part; rw [List.getElem?_eq_getElem hk]
    by_cases h4 : p.names[k].kind = 3 ∨ p.names[k].kind = 4
    · rw [if_pos h4] at hpt
      have b4 := b3 (by omega)
      rw [hpt]
      refine ⟨by simp [told]; omega, fun h5 => ?_⟩
      rw [b4]
      simp only [told, if_true, Nat.add_sub_cancel]
      have m5 := (m3 (by omega)).1
      have : decide (1 < p.names[k].count.toNat + 1) = true := by simp; omega
      rw [this, Bool.true_and]
      rw [Bool.eq_iff_iff]
      simp
      omega
    · have hz := m4 (by omega)
      have hc0 : c = 0 := by omega
      have hp2 : part p k = (2, false) ∨ part p k = (1, false) := by
        rw [hpt, if_neg h4]
        split
        · exact .inl rfl
        · split
          · exact .inl rfl
          · exact .inr rfl
      rcases hp2 with e | e
      · rw [e]
        refine ⟨by simp [hc0], fun _ => ?_⟩
        cases i <;> simp [told]
      · rw [e]
        exact ⟨by simp [hc0], fun h5 => absurd h5 (by decide)⟩
  refine ⟨?_, ?_, ?_, ?_⟩
  · show _ = (stateI _ _).length; rw [stateI_len, hb.li, hlp]
  · apply List.ext_getElem
    · show _ = (stateC _ _).length; rw [stateC_len, hb.lc, hlp]
    · intro k h1 h2
      have hk : k < p.names.length := by rw [← hb.lc]; exact h1
      have := (key k hk).1
      simpa [h1, h2] using this.symm
  · intro k hk
    by_cases hkl : k < p.names.length
    · refine ((key k hkl).2 ?_).symm
      have h1 := hk _ (List.getElem?_eq_getElem hkl)
      obtain ⟨m1, m2, m3, m4⟩ := Sc.may p hck k hkl
      unfold part
      rw [List.getElem?_eq_getElem hkl]
      simp only
      by_cases h4 : p.names[k].kind = 3 ∨ p.names[k].kind = 4
      · rw [if_pos h4]; have := (m3 (by omega)).1; simp only; omega
      · rw [if_neg h4, if_pos (by omega)]; decide
    · have e1 : s.is.getD k false = false := by simp [hb.li, hkl]
      have e2 : (state (parts p) (number (parts p) s.is s.ct)).is.getD k false = false := by
        have : (state (parts p) (number (parts p) s.is s.ct)).is.length = p.names.length := by show (stateI _ _).length = _; rw [stateI_len, hlp]
        simp [this, hkl]
      rw [e1, e2]
  · intro k hk
    have hkl : k < p.names.length := by
      unfold Ld.edges Ld.placesTo at hk
      exact List.mem_range.1 (List.mem_filter.1 hk).1
    refine ((key k hkl).2 ?_).symm
    obtain ⟨m1, m2, m3, m4⟩ := Sc.may p hck k hkl
    unfold part
    rw [List.getElem?_eq_getElem hkl]
    simp only
    by_cases h4 : p.names[k].kind = 3 ∨ p.names[k].kind = 4
    · rw [if_pos h4]; have := (m3 (by omega)).1; simp only; omega
    · rw [if_neg h4]
      split
      · decide
      · rw [if_pos (by rw [List.contains_iff_mem]; exact hk)]; decide
end Mc
end
section
namespace Ro
theorem kinds_out : ∀ R, R < 4 → ∀ S, S < 4 → ∀ P, P < 3 → ∀ i, i < R + P → (namesE R S P)[R + S + i]?.all (fun n => n.kind == 2) = true := by decide +kernel
theorem out_not {t : Tbl} {S P : Nat} (f : Fits t S P) (k : Nat) (h1 : t.rts.length + S ≤ k) (h2 : k < t.rts.length + S + t.rts.length + P) (n : Ld.Nme) (hn : (ladderE t S P).names[k]? = some n) : n.kind ≠ 1 := by
  have hS := f.S3
  have hP := f.P2
  have hR := f.R3
  have := kinds_out t.rts.length (by omega) S (by omega) P (by omega) (k - (t.rts.length + S)) (by omega)
  rw [show t.rts.length + S + (k - (t.rts.length + S)) = k by omega] at this
  have hn : (namesE t.rts.length S P)[k]? = some n := hn
  rw [hn] at this
  intro e
  simp [e] at this
/-- one scan of the machine, out of the number of a state that is come to -/
theorem mach_safe {t : Tbl} {S P : Nat} (f : Fits t S P) (hnd : ∀ r, r ∈ t.rts → (nums r).Nodup) (st : Sc.St) (hb : Sc.Bd (ladderE t S P) st) (hA : Apart t S st) (hL : Lies t S st) (inp : List Bool) (hi : inp.length = t.rts.length + S) :
    let sm := Mc.state (Mc.parts (ladderE t S P)) (Mc.number (Mc.parts (ladderE t S P)) st.is st.ct)
    Sc.step (ladderE t S P) sm inp = Sc.step (ladderE t S P) st inp ∧ (safeE t).eval (Sc.told (namesE t.rts.length S P) (Sc.step (ladderE t S P) sm inp).is) (Sc.told (namesE t.rts.length S P) sm.is) = true ∧ Sc.Bd (ladderE t S P) (Sc.step (ladderE t S P) st inp) ∧ Apart t S (Sc.step (ladderE t S P) st inp) ∧ Lies t S (Sc.step (ladderE t S P) st inp) := by
  intro sm
  have hS := f.S3
  have hP := f.P2
  have hR := f.R3
  have hck := ladder_ok f
  have hlen : (ladderE t S P).names.length = t.rts.length + S + t.rts.length + P := namesE_len _ _ _
  have hki : (Ld.kindL (ladderE t S P).names 1).length = t.rts.length + S := by
    show (Ld.kindL (namesE _ _ _) 1).length = _
    rw [kind_in _ (by omega) _ (by omega) _ (by omega)]
    simp
  have al := Mc.alike_number (ladderE t S P) hck st hb
  have e := Mc.alike_step (ladderE t S P) hck st sm inp al hb.li (by omega)
  obtain ⟨g1, g2⟩ := step_safe f hnd st (hb.li.trans hlen) inp hi hA
  have hv : ∀ k, t.rts.length + S ≤ k → k < t.rts.length + S + t.rts.length + P → v sm k = v st k := fun k h1 h2 => (al.is k fun n hn => out_not f k h1 h2 n hn).symm
  have hLm : Lies t S sm := fun i hi hvi q hq => by
    have hq1 := f.pts _ (rt_in t i hi) q hq
    rw [hv _ (by omega) (by omega)] at hvi
    rw [hv _ (by omega) (by omega)]
    exact hL i hi hvi q hq
  refine ⟨e.symm, ?_, (Sc.step_bd _ hck st inp hb (by omega)).1, g1, g2⟩
  rw [← e]
  exact safe_eval f sm _ hLm g1 g2
end Ro
end
end Go.Proofs.YtgdmohombcgjbaaGreatDoor
