/-
  Plain mathematics of chapter 4: states as numbers. Nothing of the program is named here. Plain mathematics: bits of numbers, lists of bools as numbers. Slices of numbers, and rows of rows of bools, in memory. The walk of the statements' own inputs: so many bits of each number.
-/
import Derived.Test.YtkpfahbodlfpiaaGreatDoorScPlayAll
import Derived.Test.YtkpfahbodlfpiaaGreatDoorNmWalkAll
import Derived.Laws.Bits64b
import Derived.Laws.BitsLemmas
import Derived.Test.YtkpfahbodlfpiaaGreatDoorScTwoAll
import Derived.Test.YtkpfahbodlfpiaaGreatDoorRdListAll
namespace Go.Proofs.YtkpfahbodlfpiaaGreatDoor
section
namespace Mc
/-- what a state's number has of name k: how many there are, and is it counted? -/
def part (p : Ld.Prg) (k : Nat) : Nat × Bool :=
  match p.names[k]? with
  | some n => if n.kind = 3 ∨ n.kind = 4 then (n.count.toNat + 1, true) else if n.kind = 2 then (2, false) else if (Ld.edges p).contains k then (2, false) else (1, false)
  | none => (1, false)
def parts (p : Ld.Prg) : List (Nat × Bool) := (List.range p.names.length).map (part p)
theorem parts_len (p : Ld.Prg) : (parts p).length = p.names.length := by simp [parts]
theorem parts_at (p : Ld.Prg) (k : Nat) (hk : k < p.names.length) : (parts p)[k]? = some (part p k) := by simp [parts, hk]
def told (x : Nat × Bool) (is : Bool) (ct : Int) : Nat := if x.2 then ct.toNat else if is && decide (1 < x.1) then 1 else 0
/-- the number of a state: the first part counts the least -/
def number : List (Nat × Bool) → List Bool → List Int → Nat
  | [], _, _ => 0
  | x :: r, is, ct => number r is.tail ct.tail * x.1 + told x (is.headD false) (ct.headD 0)
def total (l : List (Nat × Bool)) : Nat := l.foldr (fun x n => x.1 * n) 1
def stateI : List (Nat × Bool) → Nat → List Bool
  | [], _ => []
  | x :: r, n => (decide (1 < x.1) && decide (n % x.1 = x.1 - 1)) :: stateI r (n / x.1)
def stateC : List (Nat × Bool) → Nat → List Int
  | [], _ => []
  | x :: r, n => (if x.2 then ((n % x.1 : Nat) : Int) else 0) :: stateC r (n / x.1)
def state (l : List (Nat × Bool)) (n : Nat) : Sc.St := ⟨stateI l n, stateC l n⟩
theorem stateI_len : ∀ (l : List (Nat × Bool)) (n : Nat), (stateI l n).length = l.length
  | [], _ => rfl
  | x :: r, n => by simp [stateI, stateI_len r]
theorem stateC_len : ∀ (l : List (Nat × Bool)) (n : Nat), (stateC l n).length = l.length
  | [], _ => rfl
  | x :: r, n => by simp [stateC, stateC_len r]
/-- a part is well: at least one; what is not counted is of one or two -/
def okP (x : Nat × Bool) : Prop := 1 ≤ x.1 ∧ (x.2 = false → x.1 ≤ 2)
theorem part_ok (p : Ld.Prg) (k : Nat) : okP (part p k) := by
  unfold part okP
  repeat' split
  all_goals simp
theorem parts_ok (p : Ld.Prg) : ∀ x, x ∈ parts p → okP x := by
  intro x hx
  obtain ⟨k, _, rfl⟩ := List.mem_map.1 hx
  exact part_ok p k
theorem total_pos : ∀ (l : List (Nat × Bool)), (∀ x, x ∈ l → okP x) → 1 ≤ total l
  | [], _ => by simp [total]
  | x :: r, h => by
    have h1 := total_pos r (fun y hy => h y (by simp [hy]))
    have h2 := (h x (by simp)).1
    show 1 ≤ x.1 * total r
    exact Nat.mul_le_mul h2 h1
/-- the number of a number's state is that number -/
theorem number_state : ∀ (l : List (Nat × Bool)) (n : Nat), (∀ x, x ∈ l → okP x) → n < total l → number l (stateI l n) (stateC l n) = n
  | [], n, _, hn => by simp [total] at hn; subst hn; rfl
  | x :: r, n, h, hn => by
    obtain ⟨h1, h2⟩ := h x (by simp)
    have hlt : n / x.1 < total r := by
      rw [Nat.div_lt_iff_lt_mul (by omega), Nat.mul_comm]; exact hn
    have ih := number_state r (n / x.1) (fun y hy => h y (by simp [hy])) hlt
    show number r (stateI r (n / x.1)) (stateC r (n / x.1)) * x.1 + told x (decide (1 < x.1) && decide (n % x.1 = x.1 - 1)) (if x.2 then ((n % x.1 : Nat) : Int) else 0) = n
    rw [ih]
    have ht : told x (decide (1 < x.1) && decide (n % x.1 = x.1 - 1)) (if x.2 then ((n % x.1 : Nat) : Int) else 0) = n % x.1 := by
      unfold told
      cases hx : x.2 with
      | true => simp only [if_true]; omega
      | false =>
        have h3 := h2 hx
        have h4 : n % x.1 < x.1 := Nat.mod_lt _ (by omega)
        by_cases h5 : 1 < x.1
        · have e : x.1 = 2 := by omega
          rw [e] at h4 ⊢
          by_cases h6 : n % 2 = 1
          · simp [h6]
          · have : n % 2 = 0 := by omega
            simp [this]
        · have e : x.1 = 1 := by omega
          rw [e]
          simp [Nat.mod_one]
    rw [ht]
    have := Nat.div_add_mod n x.1
    rw [Nat.mul_comm] at this
    exact this
/-- a part and what it is of: a count below how many there are -/
def okS (x : Nat × Bool) (ct : Int) : Prop := x.2 = true → 0 ≤ ct ∧ ct.toNat < x.1
theorem told_lt (x : Nat × Bool) (is : Bool) (ct : Int) (hx : okP x) (hs : okS x ct) : told x is ct < x.1 := by
  obtain ⟨h1, h2⟩ := hx
  unfold told
  cases h : x.2 with
  | true => simp; exact (hs h).2
  | false =>
    simp only [Bool.false_eq_true, if_false]
    split
    · rename_i h3; simp at h3; exact h3.2
    · omega
theorem number_cons (x : Nat × Bool) (r : List (Nat × Bool)) (i : Bool) (is : List Bool) (c : Int) (ct : List Int) : number (x :: r) (i :: is) (c :: ct) = number r is ct * x.1 + told x i c := rfl
theorem number_lt : ∀ (l : List (Nat × Bool)) (is : List Bool) (ct : List Int), (∀ x, x ∈ l → okP x) → is.length = l.length → ct.length = l.length → (∀ (k : Nat) x c, l[k]? = some x → ct[k]? = some c → okS x c) → number l is ct < total l
  | [], _, _, _, _, _, _ => by simp [number, total]
  | x :: r, [], _, _, h, _, _ => by simp at h
  | x :: r, _ :: _, [], _, _, h, _ => by simp at h
  | x :: r, i :: is, c :: ct, h, h1, h2, h3 => by
    have ih := number_lt r is ct (fun y hy => h y (by simp [hy])) (by simpa using h1) (by simpa using h2) (fun k x c hx hc => h3 (k + 1) x c (by simpa using hx) (by simpa using hc))
    have ht := told_lt x i c (h x (by simp)) (h3 0 x c rfl rfl)
    rw [number_cons]
    show _ < x.1 * total r
    have h4 : (number r is ct + 1) * x.1 ≤ total r * x.1 := Nat.mul_le_mul_right _ ih
    rw [Nat.add_mul, Nat.one_mul] at h4
    rw [Nat.mul_comm x.1]
    omega
/-- what a number's state has: where the number is a state's -/
theorem state_number : ∀ (l : List (Nat × Bool)) (is : List Bool) (ct : List Int), (∀ x, x ∈ l → okP x) → is.length = l.length → ct.length = l.length → (∀ (k : Nat) x c, l[k]? = some x → ct[k]? = some c → okS x c) →
    ∀ (k : Nat) (x : Nat × Bool) (i : Bool) (c : Int), l[k]? = some x → is[k]? = some i → ct[k]? = some c →
      (stateI l (number l is ct))[k]? = some (decide (1 < x.1) && decide (told x i c = x.1 - 1)) ∧ (stateC l (number l is ct))[k]? = some (if x.2 then ((told x i c : Nat) : Int) else 0)
  | [], _, _, _, _, _, _, k, x, i, c, hx, _, _ => by simp at hx
  | x :: r, [], _, _, h, _, _, _, _, _, _, _, _, _ => by simp at h
  | x :: r, _ :: _, [], _, _, h, _, _, _, _, _, _, _, _ => by simp at h
  | x :: r, i :: is, c :: ct, h, h1, h2, h3, k, y, j, d, hy, hj, hd => by
    have hx := h x (by simp)
    have ht := told_lt x i c hx (h3 0 x c rfl rfl)
    have e1 : number (x :: r) (i :: is) (c :: ct) % x.1 = told x i c := by
      rw [number_cons, Nat.add_comm, Nat.add_mul_mod_self_right, Nat.mod_eq_of_lt ht]
    have e2 : number (x :: r) (i :: is) (c :: ct) / x.1 = number r is ct := by
      rw [number_cons, Nat.add_comm, Nat.add_mul_div_right _ _ (by omega), Nat.div_eq_of_lt ht, Nat.zero_add]
    cases k with
    | zero =>
      simp only [List.getElem?_cons_zero, Option.some.injEq] at hy hj hd
      subst hy; subst hj; subst hd
      simp only [stateI, stateC, List.getElem?_cons_zero, e1]
      exact ⟨trivial, trivial⟩
    | succ k =>
      simp only [stateI, stateC, List.getElem?_cons_succ, e2]
      exact state_number r is ct (fun y hy => h y (by simp [hy])) (by simpa using h1) (by simpa using h2) (fun k x c hx hc => h3 (k + 1) x c (by simpa using hx) (by simpa using hc)) k y j d (by simpa using hy) (by simpa using hj) (by simpa using hd)
/-- two states between which no scan tells a difference -/
structure Alike (p : Ld.Prg) (s t : Sc.St) : Prop where
  li : s.is.length = t.is.length
  ct : s.ct = t.ct
  is : ∀ k, (∀ n, p.names[k]? = some n → n.kind ≠ 1) → s.is.getD k false = t.is.getD k false
  was : ∀ k, k ∈ Ld.edges p → s.is.getD k false = t.is.getD k false
theorem ext_getD {a b : List Bool} (hl : a.length = b.length) (h : ∀ k, k < a.length → a.getD k false = b.getD k false) : a = b := by
  apply List.ext_getElem hl
  intro k h1 h2
  have := h k h1
  simpa [h1, h2] using this
theorem mem_edges (p : Ld.Prg) (hck : Ld.check p = none) (r : Ld.Rng) (hr : r ∈ p.rungs) (x : Ex) (hx : r.cond = some x) (nm : List UInt8) (hn : nm ∈ x.named false) : 0 ≤ Ld.number p.names nm ∧ (Ld.number p.names nm).toNat ∈ Ld.edges p := by
  obtain ⟨_, _, _, _, y, hy, hk⟩ := Ld.check_rungs p hck r hr
  rw [hx] at hy
  cases hy
  unfold Ld.known at hk
  rw [List.all_eq_true] at hk
  have h0 : 0 ≤ Ld.number p.names nm := by simpa using hk nm (Ex.edges_names x nm hn)
  refine ⟨h0, ?_⟩
  rcases Ld.number_cases p.names nm with ⟨h1, _⟩ | ⟨k, hk2, h1, h2, _⟩
  · omega
  · rw [h1]
    unfold Ld.edges Ld.placesTo
    rw [List.mem_filter]
    refine ⟨List.mem_range.2 (by omega), ?_⟩
    rw [show ((k : Int)).toNat = k by omega, List.getElem?_eq_getElem hk2]
    simp only
    rw [List.contains_iff_mem, h2]
    unfold Ld.asked
    exact List.mem_flatten.2 ⟨_, List.mem_map.2 ⟨r, hr, rfl⟩, by rw [Ld.asksR, hx]; exact hn⟩
theorem alike_step (p : Ld.Prg) (hck : Ld.check p = none) (s t : Sc.St) (inp : List Bool) (h : Alike p s t) (hls : s.is.length = p.names.length) (hil : inp.length = (Ld.kindL p.names 1).length) : Sc.step p s inp = Sc.step p t inp := by
  have hr : Sc.reads (Ld.kindL p.names 1) inp s.is = Sc.reads (Ld.kindL p.names 1) inp t.is := by
    apply ext_getD (by rw [Sc.reads_len, Sc.reads_len]; exact h.li)
    intro k hk
    rw [Sc.reads_len] at hk
    by_cases hm : k ∈ Ld.kindL p.names 1
    · obtain ⟨j, hj, rfl⟩ := List.getElem_of_mem hm
      have hlt : ∀ i, i ∈ Ld.kindL p.names 1 → i < p.names.length := fun i hi => (Ld.kindL_at _ _ _ hi).1
      rw [Sc.reads_at _ _ _ (Ld.kindL_nodup _ _) hil (fun i hi => by rw [hls]; exact hlt i hi) j hj, Sc.reads_at _ _ _ (Ld.kindL_nodup _ _) hil (fun i hi => by rw [← h.li, hls]; exact hlt i hi) j hj]
    · rw [Sc.reads_other _ _ _ _ hm, Sc.reads_other _ _ _ _ hm]
      refine h.is k (fun n hn hk1 => hm ?_)
      obtain ⟨hkl, rfl⟩ := List.getElem?_eq_some_iff.1 hn
      unfold Ld.kindL Ld.placesTo
      rw [List.mem_filter]
      exact ⟨List.mem_range.2 hkl, by rw [List.getElem?_eq_getElem hkl]; simp [hk1]⟩
  have hf : ∀ (rs : List Ld.Rng), (∀ r, r ∈ rs → r ∈ p.rungs) → ∀ u, rs.foldl (Sc.doRung p.names s.is) u = rs.foldl (Sc.doRung p.names t.is) u := by
    intro rs
    induction rs with
    | nil => intro _ u; rfl
    | cons r rs ih =>
      intro hm u
      have e : Sc.doRung p.names s.is u r = Sc.doRung p.names t.is u r := by
        unfold Sc.doRung
        cases hx : r.cond with
        | none => rfl
        | some x =>
          simp only
          have hev : x.eval (Sc.told p.names u.is) (Sc.told p.names s.is) = x.eval (Sc.told p.names u.is) (Sc.told p.names t.is) := by
            refine Ex.eval_congr _ _ _ _ x (fun _ _ => rfl) (fun nm hn => ?_)
            obtain ⟨_, h2⟩ := mem_edges p hck r (hm r (by simp)) x hx nm hn
            unfold Sc.told
            rw [h.was _ h2]
          rw [hev]
      rw [List.foldl_cons, List.foldl_cons, e]
      exact ih (fun r hr => hm r (by simp [hr])) _
  unfold Sc.step
  rw [hr, h.ct, hf p.rungs (fun _ h => h)]
/-- a state of a program within its bounds, and the state of its number -/
theorem ok_bd (p : Ld.Prg) (s : Sc.St) (hb : Sc.Bd p s) : ∀ (k : Nat) x c, (parts p)[k]? = some x → s.ct[k]? = some c → okS x c := by
  intro k x c hx hc
  have hkl : k < p.names.length := by rw [← parts_len p]; exact (List.getElem?_eq_some_iff.1 hx).1
  rw [parts_at p k hkl] at hx
  cases hx
  obtain ⟨h1, h2, _⟩ := hb.at_ k hkl
  have hkc : k < s.ct.length := (List.getElem?_eq_some_iff.1 hc).1
  have e : s.ct.getD k 0 = c := by rw [List.getD_eq_getElem?_getD, hc]; rfl
  rw [e] at h1 h2
  intro h3
  unfold part at h3 ⊢
  rw [List.getElem?_eq_getElem hkl] at h3 ⊢
  simp only at h3 ⊢
  by_cases h4 : p.names[k].kind = 3 ∨ p.names[k].kind = 4
  · rw [if_pos h4]
    exact ⟨h1, by simp only; omega⟩
  · rw [if_neg h4] at h3
    exfalso
    split at h3
    · cases h3
    · split at h3 <;> cases h3
theorem alike_number (p : Ld.Prg) (hck : Ld.check p = none) (s : Sc.St) (hb : Sc.Bd p s) : Alike p s (state (parts p) (number (parts p) s.is s.ct)) := by
  have hok := ok_bd p s hb
  have hlp := parts_len p
  have hsn := state_number (parts p) s.is s.ct (parts_ok p) (by rw [hb.li, hlp]) (by rw [hb.lc, hlp]) hok
  have key : ∀ k (hk : k < p.names.length), (state (parts p) (number (parts p) s.is s.ct)).ct.getD k 0 = s.ct.getD k 0 ∧ (1 < (part p k).1 → (state (parts p) (number (parts p) s.is s.ct)).is.getD k false = s.is.getD k false) := by
    intro k hk
    have hki : k < s.is.length := by rw [hb.li]; exact hk
    have hkc : k < s.ct.length := by rw [hb.lc]; exact hk
    obtain ⟨h1, h2⟩ := hsn k (part p k) s.is[k] s.ct[k] (parts_at p k hk) (List.getElem?_eq_getElem hki) (List.getElem?_eq_getElem hkc)
    obtain ⟨b1, b2, b3⟩ := hb.at_ k hk
    obtain ⟨m1, m2, m3, m4⟩ := Sc.may p hck k hk
    have ei : s.is.getD k false = s.is[k] := by simp [hki]
    have ec : s.ct.getD k 0 = s.ct[k] := by simp [hkc]
    rw [ei] at b3
    rw [ec] at b1 b2 b3
    rw [ei, ec]
    have g1 : (state (parts p) (number (parts p) s.is s.ct)).is.getD k false = (decide (1 < (part p k).1) && decide (told (part p k) s.is[k] s.ct[k] = (part p k).1 - 1)) := by
      show (stateI _ _).getD k false = _
      rw [List.getD_eq_getElem?_getD, h1]; rfl
    have g2 : (state (parts p) (number (parts p) s.is s.ct)).ct.getD k 0 = (if (part p k).2 then ((told (part p k) s.is[k] s.ct[k] : Nat) : Int) else 0) := by
      show (stateC _ _).getD k 0 = _
      rw [List.getD_eq_getElem?_getD, h2]; rfl
    rw [g1, g2]
    generalize s.is[k] = i at *
    generalize s.ct[k] = c at *
    have hpt : part p k = if p.names[k].kind = 3 ∨ p.names[k].kind = 4 then (p.names[k].count.toNat + 1, true) else if p.names[k].kind = 2 then (2, false) else if (Ld.edges p).contains k then (2, false) else (1, false) := by
      unfold part; rw [List.getElem?_eq_getElem hk]
    by_cases h4 : p.names[k].kind = 3 ∨ p.names[k].kind = 4
    · rw [if_pos h4] at hpt
      have b4 := b3 (by omega)
      rw [hpt]
      refine ⟨by simp [told]; omega, fun h5 => ?_⟩
      rw [b4]
      simp only [told, if_true, Nat.add_sub_cancel]
      have m5 := (m3 (by omega)).1
      have : decide (1 < p.names[k].count.toNat + 1) = true := by simp; omega
      rw [this, Bool.true_and]
      rw [Bool.eq_iff_iff]
      simp
      omega
    · have hz := m4 (by omega)
      have hc0 : c = 0 := by omega
      have hp2 : part p k = (2, false) ∨ part p k = (1, false) := by
        rw [hpt, if_neg h4]
        split
        · exact .inl rfl
        · split
          · exact .inl rfl
          · exact .inr rfl
      rcases hp2 with e | e
      · rw [e]
        refine ⟨by simp [hc0], fun _ => ?_⟩
        cases i <;> simp [told]
      · rw [e]
        exact ⟨by simp [hc0], fun h5 => absurd h5 (by decide)⟩
  refine ⟨?_, ?_, ?_, ?_⟩
  · show _ = (stateI _ _).length; rw [stateI_len, hb.li, hlp]
  · apply List.ext_getElem
    · show _ = (stateC _ _).length; rw [stateC_len, hb.lc, hlp]
    · intro k h1 h2
      have hk : k < p.names.length := by rw [← hb.lc]; exact h1
      have := (key k hk).1
      simpa [h1, h2] using this.symm
  · intro k hk
    by_cases hkl : k < p.names.length
    · refine ((key k hkl).2 ?_).symm
      have h1 := hk _ (List.getElem?_eq_getElem hkl)
      obtain ⟨m1, m2, m3, m4⟩ := Sc.may p hck k hkl
      unfold part
      rw [List.getElem?_eq_getElem hkl]
      simp only
      by_cases h4 : p.names[k].kind = 3 ∨ p.names[k].kind = 4
      · rw [if_pos h4]; have := (m3 (by omega)).1; simp only; omega
      · rw [if_neg h4, if_pos (by omega)]; decide
    · have e1 : s.is.getD k false = false := by simp [hb.li, hkl]
      have e2 : (state (parts p) (number (parts p) s.is s.ct)).is.getD k false = false := by
        have : (state (parts p) (number (parts p) s.is s.ct)).is.length = p.names.length := by show (stateI _ _).length = _; rw [stateI_len, hlp]
        simp [this, hkl]
      rw [e1, e2]
  · intro k hk
    have hkl : k < p.names.length := by
      unfold Ld.edges Ld.placesTo at hk
      exact List.mem_range.1 (List.mem_filter.1 hk).1
    refine ((key k hkl).2 ?_).symm
    obtain ⟨m1, m2, m3, m4⟩ := Sc.may p hck k hkl
    unfold part
    rw [List.getElem?_eq_getElem hkl]
    simp only
    by_cases h4 : p.names[k].kind = 3 ∨ p.names[k].kind = 4
    · rw [if_pos h4]; have := (m3 (by omega)).1; simp only; omega
    · rw [if_neg h4]
      split
      · decide
      · rw [if_pos (by rw [List.contains_iff_mem]; exact hk)]; decide
end Mc
end
section
def bitB (x : Int) (k : Nat) : Bool := bits BinOp.and .i64 (x / 2 ^ k) 1 == 1
def bitsTo (x : Int) (k : Nat) : List Bool := (List.range k).map (bitB x)
theorem bitsTo_len (x : Int) (k : Nat) : (bitsTo x k).length = k := by simp [bitsTo]
theorem bitsTo_succ (x : Int) (k : Nat) : bitsTo x (k + 1) = bitsTo x k ++ [bitB x k] := by simp [bitsTo, List.range_succ]
namespace Mc
theorem bits_one (a : Int) : bits BinOp.and .i64 a 1 = a % 2 := by
  show IntKind.i64.wrap ((BitVec.ofInt 64 a &&& BitVec.ofInt 64 1).toNat : Int) = _
  have h1 : (BitVec.ofInt 64 1).toNat = 1 := by decide
  rw [BitVec.toNat_and, h1, Nat.and_one_is_mod, BitVec.toNat_ofInt]
  have h2 : (((a % ((2 ^ 64 : Nat) : Int)).toNat % 2 : Nat) : Int) = a % 2 := by
    have : (0 : Int) ≤ a % ((2 ^ 64 : Nat) : Int) := Int.emod_nonneg _ (by decide)
    omega
  rw [h2, IntKind.wrap_i64]
  have h3 := Int.emod_nonneg a (show (2 : Int) ≠ 0 by decide)
  have h4 := Int.emod_lt_of_pos a (show (0 : Int) < 2 by decide)
  omega
theorem bitB_eq (x : Int) (k : Nat) : bitB x k = decide (x / 2 ^ k % 2 = 1) := by
  unfold bitB
  rw [bits_one]
  rfl
theorem bitB_mod (x : Int) (q k : Nat) (hk : k < q) : bitB (x % 2 ^ q) k = bitB x k := by
  rw [bitB_eq, bitB_eq]
  have h : x % 2 ^ q / 2 ^ k % 2 = x / 2 ^ k % 2 := by
    obtain ⟨d, rfl⟩ : ∃ d, q = k + 1 + d := ⟨q - (k + 1), by omega⟩
    have e : (2 : Int) ^ (k + 1 + d) = 2 ^ k * (2 * 2 ^ d) := by rw [Int.pow_add, Int.pow_succ, Int.mul_assoc]
    rw [e]
    have hp : (0 : Int) < 2 ^ k := Int.pow_pos (by decide)
    have hx := Int.emod_add_mul_ediv x (2 ^ k * (2 * 2 ^ d))
    generalize x / (2 ^ k * (2 * 2 ^ d)) = c at hx
    generalize x % (2 ^ k * (2 * 2 ^ d)) = r at hx ⊢
    rw [← hx, show r + 2 ^ k * (2 * 2 ^ d) * c = r + 2 ^ k * (2 * (2 ^ d * c)) by rw [Int.mul_assoc, Int.mul_assoc], Int.add_mul_ediv_left _ _ (by omega)]
    omega
  rw [h]
theorem bitsTo_mod (x : Int) (q : Nat) : bitsTo (x % 2 ^ q) q = bitsTo x q := by
  unfold bitsTo
  apply List.map_congr_left
  intro k hk
  exact bitB_mod x q k (List.mem_range.1 hk)
/-- bools as a number: bit k is the k-th -/
def val : List Bool → Nat
  | [] => 0
  | b :: r => (if b then 1 else 0) + 2 * val r
theorem val_lt : ∀ l : List Bool, val l < 2 ^ l.length
  | [] => by simp [val]
  | b :: r => by
    have := val_lt r
    simp only [val, List.length_cons, Nat.pow_succ]
    split <;> omega
theorem val_snoc : ∀ (l : List Bool) (b : Bool), val (l ++ [b]) = val l + (if b then 2 ^ l.length else 0)
  | [], b => by simp [val]
  | a :: r, b => by
    rw [List.cons_append, val, val, val_snoc r b, List.length_cons, Nat.pow_succ]
    split <;> split <;> omega
theorem val_bit : ∀ (l : List Bool) (k : Nat), bitB (val l : Int) k = l.getD k false
  | [], k => by rw [bitB_eq]; simp [val]
  | b :: r, 0 => by
    rw [bitB_eq]
    cases b <;> simp [val] <;> omega
  | b :: r, k + 1 => by
    have ih := val_bit r k
    rw [bitB_eq] at ih ⊢
    have e : ((val (b :: r) : Nat) : Int) / 2 ^ (k + 1) = (val r : Int) / 2 ^ k := by
      rw [Int.pow_succ, Int.mul_comm, ← Int.ediv_ediv_of_nonneg (by decide)]
      congr 1
      cases b <;> simp [val] <;> omega
    rw [e]
    simpa using ih
theorem val_back (l : List Bool) : bitsTo (val l) l.length = l := by
  apply ext_getD (by rw [bitsTo_len])
  intro k hk
  rw [bitsTo_len] at hk
  rw [← val_bit l k]
  simp [bitsTo, hk]
theorem or_pow (v k : Nat) (hv : v < 2 ^ k) (hk : k < 62) : bits BinOp.or .i64 (v : Int) (2 ^ k : Nat) = ((v + 2 ^ k : Nat) : Int) := by
  have hp : 2 ^ k ≤ 2 ^ 61 := Nat.pow_le_pow_right (by decide) (by omega)
  have h1 : (BitVec.ofInt 64 (v : Int)).toNat = v := by
    rw [BitVec.ofInt_natCast, BitVec.toNat_ofNat]; exact Nat.mod_eq_of_lt (by omega)
  have h2 : (BitVec.ofInt 64 ((2 ^ k : Nat) : Int)).toNat = 2 ^ k := by
    rw [BitVec.ofInt_natCast, BitVec.toNat_ofNat]; exact Nat.mod_eq_of_lt (by omega)
  show IntKind.i64.wrap ((BitVec.ofInt 64 (v : Int) ||| BitVec.ofInt 64 ((2 ^ k : Nat) : Int)).toNat : Int) = _
  have h3 : v ||| 2 ^ k = v + 2 ^ k := by
    have := Nat.two_pow_add_eq_or_of_lt hv 1
    rw [Nat.mul_one] at this
    rw [Nat.or_comm, ← this, Nat.add_comm]
  rw [BitVec.toNat_or, h1, h2, h3, IntKind.wrap_i64]
  omega
end Mc
end
section
open Go.RowKit
theorem Tryz.infoBool : (Tryz.prog.info? 4).map (fun i => (i.zero, i.size, i.bytes)) = some (some (.bool false), 1, 1) := by kernel_rfl
theorem Tryz.infoBools : (Tryz.prog.info? 47).map (fun i => (i.zero, i.size, i.bytes)) = some (some (.slice none 0 0), 1, 24) := by kernel_rfl
/-- rows of bools in a row of slices, all from block q on -/
structure InsR (q : Nat) (W : World) (o : Value) (us : List Value) (bs : List (List Bool)) : Prop where
  len : us.length = bs.length
  own : W.ownsRow q 47 1 o bs.length us
  at_ : ∀ (j : Nat) (u : Value) (b : List Bool), us[j]? = some u → bs[j]? = some b → W.ownsRow q 4 1 u b.length (b.map boolV)
theorem InsR.nil (q : Nat) (W : World) : InsR q W (.slice none 0 0) [] [] := ⟨rfl, World.ownsRow_nil _ _ _ _, fun j u b h => by simp at h⟩
theorem InsR.below {q : Nat} {W W' : World} {o : Value} {us : List Value} {bs : List (List Bool)} (h : InsR q W o us bs) (hb : Below W.heap.size W W') : InsR q W' o us bs :=
  ⟨h.len, own_below h.own hb, fun j u b h1 h2 => own_below (h.at_ j u b h1 h2) hb⟩
theorem bools_of {q : Nat} {W : World} {u : Value} {b : List Bool} (h : W.ownsRow q 4 1 u b.length (b.map boolV)) (hl : b.length ≤ 1000000) : Bools W u b := by
  rcases h.2 with ⟨rfl, h0⟩ | ⟨g, cap, cur, rfl, _, hcur, hcap, _, _, htk⟩
  · exact ⟨none, 0, by rw [h0], hl, fun i b hb => by rw [List.length_eq_zero_iff.1 h0] at hb; simp at hb⟩
  · exact ⟨_, _, rfl, hl, fun i x hx => ⟨g, rfl, row_cell hcur htk (by rw [List.getElem?_map, hx]; rfl)⟩⟩
theorem InsR.insAt {q : Nat} {W : World} {o : Value} {us : List Value} {bs : List (List Bool)} (h : InsR q W o us bs) (hl : ∀ b, b ∈ bs → b.length ≤ 1000000) : InsAt W o bs := by
  rcases h.own.2 with ⟨rfl, h0⟩ | ⟨g, cap, cur, rfl, _, hcur, hcap, _, _, htk⟩
  · exact .inl ⟨List.length_eq_zero_iff.1 h0, _, _, rfl⟩
  · refine .inr ⟨g, cap, rfl, hcap, fun i b hb => ?_⟩
    have hil : i < us.length := by rw [h.len]; exact (List.getElem?_eq_some_iff.1 hb).1
    exact ⟨us[i], row_cell hcur htk (List.getElem?_eq_getElem hil), bools_of (h.at_ i _ b (List.getElem?_eq_getElem hil) hb) (hl b (List.mem_of_getElem? hb))⟩
theorem InsR.put {q : Nat} {W W' : World} {o o' u : Value} {us : List Value} {bs : List (List Bool)} {b : List Bool} (h : InsR q W o us bs) (hu : W.ownsRow q 4 1 u b.length (b.map boolV)) (ob : Obj) (hown : W'.ownsRow q 47 1 o' (bs.length + 1) (us ++ [u])) (hg : (W.alloc ob).grownBy W' o.ownBlock) :
    InsR q W' o' (us ++ [u]) (bs ++ [b]) := by
  have hk : ∀ (u : Value) (b : List Bool), W.ownsRow q 4 1 u b.length (b.map boolV) → W'.ownsRow q 4 1 u b.length (b.map boolV) := fun u b hu =>
    (hu.alloc ob).kept hg (own_apart hu h.own (by decide))
  refine ⟨by simp [h.len], by simpa using hown, ?_⟩
  intro j x y hj hy
  by_cases hjl : j < bs.length
  · rw [List.getElem?_append_left (by rw [h.len]; exact hjl)] at hj
    rw [List.getElem?_append_left hjl] at hy
    exact hk _ _ (h.at_ j x y hj hy)
  · have hj2 : j < (bs ++ [b]).length := (List.getElem?_eq_some_iff.1 hy).1
    have : j = bs.length := by simp at hj2; omega
    subst this
    rw [List.getElem?_append_right (by rw [h.len]; exact Nat.le_refl _), h.len] at hj
    rw [List.getElem?_append_right (Nat.le_refl _)] at hy
    simp only [Nat.sub_self, List.getElem?_cons_zero, Option.some.injEq] at hj hy
    subst hj; subst hy
    exact hk _ _ hu
end
section
open Go.RowKit
set_option maxHeartbeats 8000000 in
set_option maxRecDepth 100000 in
theorem linputsR_any (l : List Int) (lv : Value) (many : Nat) (w : World) (hl : Ints w lv l) (h60 : l.length ≤ 60) (hm : many ≤ 12) :
    Calls Tryz.prog 8 #[lv, .int .i64 (many : Int)] w fun e w' => ∃ v us, e = .returned v ∧ InsR w.heap.size w' v us (l.map fun x => bitsTo x many) ∧ Below w.heap.size w w' := by
  obtain ⟨i0, hi0, hz0, hz1, hz2⟩ := info_parts Tryz.infoBool
  obtain ⟨i1, hi1, hy0, hy1, hy2⟩ := info_parts Tryz.infoBools
  have HLI := hide hl
  obtain ⟨la, lc, rfl⟩ := hl.slice
  obtain ⟨c, hcc⟩ : ∃ c, c = l.length := ⟨_, rfl⟩
  have HC := hide hcc
  rw [← hcc] at HLI h60 ⊢
  clear hl hcc
  go_enter Tryz.func8, Tryz.ntmps8
  go_wp2_with fail
  go_loopw [5, 6] (fun o i wr => ∃ k : Nat, k ≤ c ∧ i = .int .i64 (k : Int) ∧ (∃ a cp, o = .slice a k cp) ∧ Hid (∃ us, InsR w.heap.size wr o us ((l.take k).map fun x => bitsTo x many)) ∧ Hid (Below w.heap.size w wr)) (fun _ i _ => c - (intOf i).toNat)
  case atStart => exact ⟨0, Nat.zero_le _, rfl, ⟨_, _, rfl⟩, ⟨[], InsR.nil _ _⟩, Below.refl _ _⟩
  case round =>
    obtain ⟨k, hk, rfl, ⟨oa, oc, rfl⟩, HI, HB⟩ := hrel
    by_cases hlt : k < c
    · have hkl : k < l.length := by rw [← HC.out]; exact hlt
      obtain ⟨g, o, hla, hca, hcell⟩ : ∃ g o, la = some ⟨g, o, none⟩ ∧ c ≤ lc ∧ ∀ W, Below w.heap.size w W → W.cell? ⟨g, o + k, none⟩ = some (.int .i64 l[k]) ∧ I64 l[k] := by
        rcases HLI.out with ⟨h0, _⟩ | ⟨g, o, cap, h1, h2, h3⟩
        · rw [h0] at hkl; simp at hkl
        · simp only [Value.slice.injEq] at h1
          refine ⟨g, o, h1.1, by rw [h1.2.2, h1.2.1]; exact h2, fun W hW => ?_⟩
          obtain ⟨h4, h5⟩ := h3 k _ (List.getElem?_eq_getElem hkl)
          exact ⟨(hW.cell (World.block_lt_of_cell? _ _ h4)).trans h4, h5⟩
      subst hla
      have HCL := hide hcell
      have HTK := hide (List.take_succ_eq_append_getElem hkl)
      clear hcell
      generalize l[k] = x at *
      have hqw := HB.out.size
      obtain ⟨us, hus⟩ := HI.out
      have HUS := hide hus
      clear HI hus
      obtain ⟨wo, rfl⟩ : ∃ wo, wo = wr := ⟨_, rfl⟩
      go_wp2_with fail
      go_loopw [7, 8] (fun ii kk wi => ∃ j : Nat, j ≤ many ∧ kk = .int .i64 (j : Int) ∧ (∃ a cp, ii = .slice a j cp) ∧ Hid (wi.ownsRow wo.heap.size 4 1 ii j ((bitsTo x j).map boolV)) ∧ Hid (Below wo.heap.size wo wi)) (fun _ kk _ => many - (intOf kk).toNat)
      case atStart => exact ⟨0, Nat.zero_le _, rfl, ⟨_, _, rfl⟩, World.ownsRow_nil _ _ _ _, Below.refl _ _⟩
      case round =>
        obtain ⟨j, hj, rfl, ⟨ja, jc, rfl⟩, HO, HBI⟩ := hrel
        have hsz := HBI.out.size
        by_cases hjm : j < many
        · obtain ⟨hcx, hxx⟩ := HCL.out wr (HB.out.trans (HBI.out.mono HB.out.size))
          have HOWN : Hid (∀ o, (wr.alloc o).ownsRow wo.heap.size 4 1 (.slice ja j jc) j ((bitsTo x j).map boolV)) := fun o => HO.out.alloc o
          have HONE : Hid (∀ (b : Bool), ∀ u ∈ [Value.bool b], u.oneCell' = true) := by
            intro b u hu
            simp only [List.mem_cons, List.not_mem_nil, or_false] at hu
            subst hu; rfl
          have HFIN : Hid (∀ (o : Obj) (g cap : Nat) (wC : World), wC.ownsRow wo.heap.size 4 1 (.slice (some ⟨g, 0, none⟩) (j + 1) cap) (j + 1) ((bitsTo x j).map boolV ++ [.bool (bitB x j)]) → (wr.alloc o).grownBy wC (Value.slice ja j jc).ownBlock →
              wC.ownsRow wo.heap.size 4 1 (.slice (some ⟨g, 0, none⟩) (j + 1) cap) (j + 1) ((bitsTo x (j + 1)).map boolV) ∧ Below wo.heap.size wo wC) := by
            intro o g cap wC hown hgrow
            refine ⟨?_, (HBI.out.alloc HBI.out.size o).grown hgrow (by simp; omega) (fun j e => (HO.out.lt j e).1)⟩
            rw [bitsTo_succ, List.map_append]
            exact hown
          clear HO
          go_wp2_with (at_builtin; refine wpList_append_lies _ rfl (.tmp 20) (.tmp 29) 47 rfl wo.heap.size 4 i0 _ 1 1 Tryz.underlying47 hi0 hz0 hz1 hz2 rfl (by decide) (.slice ja j jc) j ((bitsTo x j).map boolV) rfl (HOWN.out _) ⟨wr.heap.size, 0, none⟩ 1 1 [.bool _] rfl rfl (World.news_of_block (heap_alloc_new wr _)) (HONE.out _) (by decide) (by unfold maxLen; omega) (by omega) (by simp; omega) (wr.heap.size + 1) (by simp) ?_; intro g2 cap2 wC hown hgrow hat hltg)
          obtain ⟨hoC, hbC⟩ := HFIN.out _ g2 cap2 wC hown hgrow
          exact ⟨⟨j + 1, by omega, by go_num, ⟨_, _, rfl⟩, hoC, hbC⟩, by simp [intOf]; omega⟩
        · have hjn : j = many := by omega
          subst hjn
          have HOWN : Hid (∀ o, (wr.alloc o).ownsRow w.heap.size 47 1 (.slice oa k oc) k us) := fun o => by
            have := own_below HUS.out.own HBI.out
            simp only [List.length_map, List.length_take, Nat.min_eq_left (Nat.le_of_lt hkl)] at this
            exact this.alloc o
          have HONE : Hid (∀ u ∈ [Value.slice ja j jc], u.oneCell' = true) := by
            intro u hu
            simp only [List.mem_cons, List.not_mem_nil, or_false] at hu
            subst hu; rfl
          have HFIN : Hid (∀ (o : Obj) (g cap : Nat) (wC : World), wC.ownsRow w.heap.size 47 1 (.slice (some ⟨g, 0, none⟩) (k + 1) cap) (k + 1) (us ++ [.slice ja j jc]) → (wr.alloc o).grownBy wC (Value.slice oa k oc).ownBlock →
              InsR w.heap.size wC (.slice (some ⟨g, 0, none⟩) (k + 1) cap) (us ++ [.slice ja j jc]) ((l.take (k + 1)).map fun x => bitsTo x j) ∧ Below w.heap.size w wC) := by
            intro o g cap wC hown hgrow
            have hln : ((l.take k).map fun x => bitsTo x j).length = k := by simp; omega
            have hu : wr.ownsRow w.heap.size 4 1 (.slice ja j jc) (bitsTo x j).length ((bitsTo x j).map boolV) := by rw [bitsTo_len]; exact own_mono HO.out hqw
            have hp := (HUS.out.below HBI.out).put hu o (by rw [hln]; exact hown) hgrow
            rw [HTK.out, List.map_append]
            refine ⟨hp, ?_⟩
            have hb := HB.out.trans (HBI.out.mono hqw)
            exact (hb.alloc hb.size o).grown hgrow (by simp; omega) (fun i e => (HUS.out.own.lt i e).1)
          clear HO
          go_wp2_with (at_builtin; refine wpList_append_lies _ rfl (.tmp 31) (.tmp 33) 34 rfl w.heap.size 47 i1 _ 1 24 Tryz.underlying34 hi1 hy0 hy1 hy2 rfl (by decide) (.slice oa k oc) k us rfl (HOWN.out _) ⟨wr.heap.size, 0, none⟩ 1 1 [.slice ja j jc] rfl rfl (World.news_of_block (heap_alloc_new wr _)) HONE.out (by decide) (by unfold maxLen; omega) (by omega) (by simp; omega) (wr.heap.size + 1) (by simp) ?_; intro g2 cap2 wC hown hgrow hat hltg)
          obtain ⟨hoC, hbC⟩ := HFIN.out _ g2 cap2 wC hown hgrow
          go_roundw
          case rel => exact ⟨k + 1, by omega, by go_num, ⟨_, _, rfl⟩, ⟨_, hoC⟩, hbC⟩
          case measure => simp [intOf]; omega
    · have hkc : k = c := by omega
      subst hkc
      obtain ⟨us, hus⟩ := HI.out
      have HUS := hide hus
      clear HI hus
      go_wp2_with fail
      go_ret
      refine ⟨_, us, rfl, ?_, HB.out⟩
      have h1 := HUS.out
      rw [List.take_of_length_le (by rw [← HC.out]; exact Nat.le_refl _)] at h1
      exact h1
theorem linputs_any (l : List Int) (lv : Value) (many : Nat) (w : World) (hl : Ints w lv l) (h60 : l.length ≤ 60) (hm : many ≤ 12) :
    Calls Tryz.prog 8 #[lv, .int .i64 (many : Int)] w fun e w' => ∃ v, e = .returned v ∧ InsAt w' v (l.map fun x => bitsTo x many) ∧ Below w.heap.size w w' :=
  (linputsR_any l lv many w hl h60 hm).mono fun _ _ ⟨v, _, h1, h2, h3⟩ => ⟨v, h1, h2.insAt (fun b hb => by
    obtain ⟨x, _, rfl⟩ := List.mem_map.1 hb
    rw [bitsTo_len]; omega), h3⟩
end
end Go.Proofs.YtkpfahbodlfpiaaGreatDoor
