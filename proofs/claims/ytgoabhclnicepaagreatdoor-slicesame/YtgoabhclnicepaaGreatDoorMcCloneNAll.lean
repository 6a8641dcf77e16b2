/-
  The walk of the statements' own sliced. The walk of package slice's isIdle: does a tidy rung never do anything? Plain mathematics of the program's numbering: a sign ahead of parts that are told by their numbers; in a table without doubles two expressions have one number just if they are one. Nothing of the program is named here. Plain mathematics: parts of a list gathered one by one; how many texts are numbered on the way. Nothing of the program is named here. Plain facts: what a program that was read asks was read; how much is numbered where an expression that was read is made tidy. An append of nothing. (Out of LdEdges.) The walk of slices.Clone at names. (Out of McCopied.)
-/
import Derived.Test.YtgoabhclnicepaaGreatDoorSlGrowAll
import Derived.Test.YtgoabhclnicepaaGreatDoorSlOf
import Derived.Test.YtgoabhclnicepaaGreatDoorLdParseW
import Derived.Test.YtgoabhclnicepaaGreatDoorSlTidyMAll
import Derived.Test.YtgoabhclnicepaaGreatDoorLdRepAll
import Derived.Test.YtgoabhclnicepaaGreatDoorNaEachAll
import Derived.Lib.ItoaNum
import Derived.Test.YtgoabhclnicepaaGreatDoorRtBoundAll
import Derived.Laws.OwnMore
import Derived.Lib.AppendZeros
import Derived.Deep.RegionLaw
import Derived.Maps.AppendAt
import Derived.Test.YtgoabhclnicepaaGreatDoorSlBuildAll
import Derived.Test.YtgoabhclnicepaaGreatDoorLdTakeRAll
namespace Go.Proofs.YtgoabhclnicepaaGreatDoor
section
open Go.RowKit
namespace Sl
set_option maxHeartbeats 4000000 in
set_option maxRecDepth 100000 in
theorem sliced_any (w : World) (hL : Laid w) : Calls Tryz.prog 6 #[] w fun e w' => e = .returned (.bool true) ∧ Below w.heap.size w w' := by
  have HP := hide (LParse_any [105, 110, 112, 117, 116, 32, 97, 10, 99, 111, 105, 108, 32, 109, 10, 99, 111, 105, 108, 32, 110, 10, 109, 32, 61, 32, 97, 10, 110, 32, 61, 32, 49, 10] w (by decide) hL)
  rw [Ld.lit5_parse] at HP
  clear hL
  go_enter Tryz.func6, Tryz.ntmps6
  go_wp2_with fail
  refine HP.out.mono ?_
  rintro e w1 ⟨hb1, v, rfl, hp1, _⟩
  have HB1 := hide hb1
  have HP1 := hide hp1
  obtain ⟨nv, rv, rfl, hn, hr⟩ := hp1
  obtain ⟨na, nc, rfl, _⟩ := hn.slice
  obtain ⟨ra, rc, rfl, _⟩ := hr.slice
  clear hb1 hn hr HP
  have l1 : Ld.lit5.names.length = 3 := rfl
  have l2 : Ld.lit5.rungs.length = 2 := rfl
  rw [l1, l2] at HP1 ⊢
  clear l1 l2
  obtain ⟨wA, hwA⟩ : ∃ wA, wA = (w1.alloc (.cells #[.slice na 3 nc, .slice ra 2 rc] 26)).alloc (.cells #[.string ⟨#[109]⟩] 9) := ⟨_, rfl⟩
  have hbA : Below w1.heap.size w1 wA := by rw [hwA]; exact ((Below.refl _ _).alloc (Nat.le_refl _) _).alloc (by simp) _
  have hst : Strs wA (.slice (some ⟨w1.heap.size + 1, 0, none⟩) 1 1) ([[109]].map toBA) := by
    refine .inr ⟨_, 0, 1, rfl, by simp, by simp, fun k s hk => ?_⟩
    match k, hk with
    | 0, hk =>
      simp at hk
      subst hk
      rw [hwA]
      simp [go_sem, toBA]
    | k + 1, hk => simp at hk
  have HOF := hide (Of_any Ld.lit5 _ _ [[109]] wA (HP1.out.below hbA) Ld.lit5_check hst (fun s hs => by
    have : s = [109] := by simpa using hs
    rw [this, Ld.lit5_num1]
    decide))
  rw [hwA] at HOF
  have HWA := hide hwA
  have HBA := hide hbA
  clear hwA hbA hst
  go_wp2_with fail
  refine HOF.out.mono ?_
  rintro e w2 ⟨m, pv, rfl, hm, hp2, hb2⟩
  rw [← HWA.out] at hb2
  have HB2 := hide (HB1.out.trans ((HBA.out.trans (hb2.mono HBA.out.size)).mono HB1.out.size))
  obtain ⟨e1, e2⟩ := lit5_part m hm
  obtain ⟨nv2, rv2, rfl, hn2, hr2⟩ := hp2
  obtain ⟨na2, nc2, rfl, _⟩ := hn2.slice
  obtain ⟨ra2, rc2, rfl, _⟩ := hr2.slice
  rw [e1, e2]
  clear hm hn2 hr2 hb2 HOF e1 e2
  go_wp2_with fail
  go_ret
  exact ⟨rfl, HB2.out.alloc HB2.out.size _⟩
end Sl
end
section
open Go.RowKit
namespace Sl
/-- the value of an expression: a constant, or one of the other kinds -/
theorem ex_shape {ok : Nat → Prop} {w : World} (y : Ex) (v : Value) (h : IsEx ok w y v) : (y.kind = 0 ∧ v = .iface 113 (.bool false)) ∨ (y.kind = 1 ∧ v = .iface 113 (.bool true)) ∨ (2 ≤ y.kind ∧ ((∃ s, v = .iface 159 (.string s)) ∨ (∃ s, v = .iface 160 (.string s)) ∨ (∃ s, v = .iface 161 (.string s)) ∨ (∃ u, v = .iface 132 (.agg #[u])) ∨ (∃ a n c, v = .iface 135 (.slice a n c)) ∨ ∃ a n c, v = .iface 137 (.slice a n c))) := by
  obtain ⟨k, nm, l⟩ := y
  match k, h with
  | 0, h => simp only [IsEx] at h; exact .inl ⟨rfl, h.2.2⟩
  | 1, h => simp only [IsEx] at h; exact .inr (.inl ⟨rfl, h.2.2⟩)
  | 2, h => simp only [IsEx] at h; exact .inr (.inr ⟨by show 2 ≤ 2; omega, .inl ⟨_, h.2.2⟩⟩)
  | 3, h => simp only [IsEx] at h; exact .inr (.inr ⟨by show 2 ≤ 3; omega, .inr (.inl ⟨_, h.2.2⟩)⟩)
  | 4, h => simp only [IsEx] at h; exact .inr (.inr ⟨by show 2 ≤ 4; omega, .inr (.inr (.inl ⟨_, h.2.2⟩))⟩)
  | 5, h =>
    simp only [IsEx] at h
    obtain ⟨_, _, u, h3, _⟩ := h
    exact .inr (.inr ⟨by show 2 ≤ 5; omega, .inr (.inr (.inr (.inl ⟨u, h3⟩)))⟩)
  | 6, h =>
    simp only [IsEx] at h
    obtain ⟨_, _, _, g, cap, h3, _⟩ := h
    exact .inr (.inr ⟨by show 2 ≤ 6; omega, .inr (.inr (.inr (.inr (.inl ⟨_, _, _, h3⟩))))⟩)
  | 7, h =>
    simp only [IsEx] at h
    obtain ⟨_, _, _, g, cap, h3, _⟩ := h
    exact .inr (.inr ⟨by show 2 ≤ 7; omega, .inr (.inr (.inr (.inr (.inr ⟨_, _, _, h3⟩))))⟩)
  | n + 8, h => simp only [IsEx] at h
set_option maxHeartbeats 4000000 in
set_option maxRecDepth 100000 in
theorem isIdle_any (ok : Nat → Prop) (kd : Int) (nm : List UInt8) (y : Ex) (v : Value) (w : World) (h : IsEx ok w y v) :
    Calls Tryz.prog 31 #[.agg #[.int .i64 kd, .string ⟨nm.toArray⟩, v]] w fun e w' => e = .returned (.bool (idleK kd && y.kind == 0)) ∧ Below w.heap.size w w' := by
  have hs := ex_shape y v h
  clear h
  generalize y.kind = yk at *
  by_cases hk : kd = 2 ∨ kd = 3 ∨ kd = 5 ∨ kd = 6
  · have HK : Hid (idleK kd = true) := by
      show _ = _
      unfold idleK
      simp only [Bool.or_eq_true, beq_iff_eq]
      omega
    rcases hs with ⟨rfl, rfl⟩ | ⟨rfl, rfl⟩ | ⟨h2, hs⟩
    · rcases hk with rfl | rfl | rfl | rfl
      all_goals
        go_enter Tryz.func31, Tryz.ntmps31
        go_wp2_with fail
        go_ret
        exact ⟨by rw [HK.out]; rfl, (Below.refl _ _).alloc (Nat.le_refl _) _⟩
    · rcases hk with rfl | rfl | rfl | rfl
      all_goals
        go_enter Tryz.func31, Tryz.ntmps31
        go_wp2_with fail
        go_ret
        exact ⟨by rw [HK.out]; rfl, (Below.refl _ _).alloc (Nat.le_refl _) _⟩
    · have HY : Hid ((yk == 0) = false) := by show _ = _; rw [beq_eq_false_iff_ne]; omega
      clear h2
      rcases hs with ⟨s, rfl⟩ | ⟨s, rfl⟩ | ⟨s, rfl⟩ | ⟨u, rfl⟩ | ⟨a, n, c, rfl⟩ | ⟨a, n, c, rfl⟩
      all_goals rcases hk with rfl | rfl | rfl | rfl
      all_goals
        go_enter Tryz.func31, Tryz.ntmps31
        go_wp2_with fail
        go_ret
        exact ⟨by rw [HK.out, HY.out]; rfl, (Below.refl _ _).alloc (Nat.le_refl _) _⟩
  · have HK : Hid (idleK kd = false) := by
      show _ = _
      cases h : idleK kd with
      | false => rfl
      | true =>
        unfold idleK at h
        simp only [Bool.or_eq_true, beq_iff_eq] at h
        omega
    have e2 : (kd == 2) = false := by rw [beq_eq_false_iff_ne]; omega
    have e3 : (kd == 3) = false := by rw [beq_eq_false_iff_ne]; omega
    have e5 : (kd == 5) = false := by rw [beq_eq_false_iff_ne]; omega
    have e6 : (kd == 6) = false := by rw [beq_eq_false_iff_ne]; omega
    obtain ⟨t, u, rfl⟩ : ∃ t u, v = .iface t u := by
      rcases hs with ⟨_, rfl⟩ | ⟨_, rfl⟩ | ⟨_, ⟨s, rfl⟩ | ⟨s, rfl⟩ | ⟨s, rfl⟩ | ⟨u, rfl⟩ | ⟨a, n, c, rfl⟩ | ⟨a, n, c, rfl⟩⟩
      all_goals exact ⟨_, _, rfl⟩
    clear hk hs
    go_enter Tryz.func31, Tryz.ntmps31
    go_wp2_with fail
    go_ret
    exact ⟨by rw [HK.out]; rfl, (Below.refl _ _).alloc (Nat.le_refl _) _⟩
end Sl
end
section
open Go.Lib (decDigits)
/-- the number that digits tell -/
def dval (l : List UInt8) : Nat := l.foldl (fun a c => a * 10 + (c.toNat - 48)) 0
theorem dval_snoc (l : List UInt8) (c : UInt8) : dval (l ++ [c]) = dval l * 10 + (c.toNat - 48) := by simp [dval]
theorem digit_nat (u : Nat) (h : u < 10) : (UInt8.ofNat (48 + u)).toNat = 48 + u := by simp; omega
theorem dec_digits (u : Nat) : (∀ c, c ∈ decDigits u → 48 ≤ c.toNat ∧ c.toNat ≤ 57) ∧ decDigits u ≠ [] ∧ dval (decDigits u) = u := by
  induction u using Nat.strongRecOn with
  | ind u ih =>
    by_cases h : u < 10
    · rw [decDigits, dif_pos h]
      have := digit_nat u h
      refine ⟨fun c hc => ?_, by simp, ?_⟩
      · simp only [List.mem_singleton] at hc; subst hc; omega
      · have e := dval_snoc [] (UInt8.ofNat (48 + u))
        simp only [List.nil_append] at e
        rw [e, this]
        simp [dval]
    · rw [decDigits, dif_neg h]
      obtain ⟨h1, _, h3⟩ := ih (u / 10) (by omega)
      have := digit_nat (u % 10) (by omega)
      refine ⟨fun c hc => ?_, by simp, ?_⟩
      · rcases List.mem_append.1 hc with hc | hc
        · exact h1 c hc
        · simp only [List.mem_singleton] at hc; subst hc; omega
      · rw [dval_snoc, h3, this]
        omega
theorem dec_inj (a b : Nat) (h : decDigits a = decDigits b) : a = b := by
  rw [← (dec_digits a).2.2, ← (dec_digits b).2.2, h]
/-- digits, and then what is none -/
theorem digits_split : ∀ (a b r t : List UInt8), (∀ c, c ∈ a → 48 ≤ c.toNat ∧ c.toNat ≤ 57) → (∀ c, c ∈ b → 48 ≤ c.toNat ∧ c.toNat ≤ 57) → (∀ c, r.head? = some c → ¬ (48 ≤ c.toNat ∧ c.toNat ≤ 57)) → (∀ c, t.head? = some c → ¬ (48 ≤ c.toNat ∧ c.toNat ≤ 57)) → a ++ r = b ++ t → a = b ∧ r = t := by
  intro a
  induction a with
  | nil =>
    intro b r t _ hb hr _ h
    match b, hb with
    | [], _ => exact ⟨rfl, by simpa using h⟩
    | c :: s, hb =>
      exfalso
      simp only [List.nil_append, List.cons_append] at h
      exact hr c (by rw [h]; rfl) (hb c (by simp))
  | cons c s ih =>
    intro b r t ha hb hr ht h
    match b, hb with
    | [], _ =>
      exfalso
      simp only [List.nil_append, List.cons_append] at h
      exact ht c (by rw [← h]; rfl) (ha c (by simp))
    | d :: u, hb =>
      simp only [List.cons_append, List.cons.injEq] at h
      obtain ⟨rfl, h⟩ := h
      obtain ⟨e1, e2⟩ := ih u r t (fun x hx => ha x (by simp [hx])) (fun x hx => hb x (by simp [hx])) hr ht h
      exact ⟨by rw [e1], e2⟩
/-- a sign ahead of each number -/
def cat (s : UInt8) (ns : List Nat) : List UInt8 := (ns.map fun i => s :: decDigits i).flatten
theorem cat_cons (s : UInt8) (a : Nat) (r : List Nat) : cat s (a :: r) = s :: (decDigits a ++ cat s r) := by simp [cat]
theorem cat_head (s : UInt8) (ns : List Nat) : ∀ c, (cat s ns).head? = some c → c = s := by
  intro c h
  match ns with
  | [] => simp [cat] at h
  | a :: r => rw [cat_cons] at h; simpa using h.symm
theorem cat_inj (s : UInt8) (hs : ¬ (48 ≤ s.toNat ∧ s.toNat ≤ 57)) : ∀ ns ms : List Nat, cat s ns = cat s ms → ns = ms := by
  intro ns
  induction ns with
  | nil =>
    intro ms h
    match ms with
    | [] => rfl
    | b :: t => rw [cat_cons] at h; simp [cat] at h
  | cons a r ih =>
    intro ms h
    match ms with
    | [] => rw [cat_cons] at h; simp [cat] at h
    | b :: t =>
      rw [cat_cons, cat_cons] at h
      simp only [List.cons.injEq, true_and] at h
      obtain ⟨e1, e2⟩ := digits_split _ _ _ _ (dec_digits a).1 (dec_digits b).1 (fun c hc => by rw [cat_head s r c hc]; exact hs) (fun c hc => by rw [cat_head s t c hc]; exact hs) h
      rw [dec_inj a b e1, ih t e2]
namespace Ex
def sign (k : Nat) : UInt8 := if k = 5 then 33 else if k = 6 then 38 else 124
/-- by what an expression is told in the table -/
def code (k : Nat) (nm : List UInt8) (ns : List Nat) : List UInt8 := if k ≤ 4 then text ⟨k, nm, []⟩ else cat (sign k) ns
def Num (tb : List (List UInt8)) : Ex → Nat → Prop
  | ⟨k, nm, l⟩ => fun n => ∃ ns : List Nat, ns.length = l.length ∧ (∀ (i : Nat) (P : Nat → Prop) (m : Nat), (l.map fun y => Num tb y)[i]? = some P → ns[i]? = some m → P m) ∧ tb[n]? = some (code k nm ns)
theorem Num.def (tb : List (List UInt8)) (k : Nat) (nm : List UInt8) (l : List Ex) (n : Nat) : Num tb ⟨k, nm, l⟩ n ↔ ∃ ns : List Nat, ns.length = l.length ∧ (∀ (i : Nat) (y : Ex) (m : Nat), l[i]? = some y → ns[i]? = some m → Num tb y m) ∧ tb[n]? = some (code k nm ns) := by
  simp only [Num]
  constructor
  · rintro ⟨ns, h1, h2, h3⟩
    exact ⟨ns, h1, fun i y m hy hm => h2 i _ m (by rw [List.getElem?_map, hy]; rfl) hm, h3⟩
  · rintro ⟨ns, h1, h2, h3⟩
    refine ⟨ns, h1, fun i P m hP hm => ?_, h3⟩
    rw [List.getElem?_map] at hP
    cases hl : l[i]? with
    | none => rw [hl] at hP; simp at hP
    | some y =>
      rw [hl] at hP
      simp only [Option.map_some, Option.some.injEq] at hP
      rw [← hP]
      exact h2 i y m hl hm
theorem Num.mono (tb more : List (List UInt8)) (x : Ex) : ∀ n, Num tb x n → Num (tb ++ more) x n := by
  induction x using Ex.ind with
  | h k nm l ih =>
    intro n h
    rw [Num.def] at h ⊢
    obtain ⟨ns, h1, h2, h3⟩ := h
    refine ⟨ns, h1, fun i y m hy hm => ih y (List.mem_of_getElem? hy) m (h2 i y m hy hm), ?_⟩
    have hl : n < tb.length := by
      by_cases h : n < tb.length
      · exact h
      · rw [List.getElem?_eq_none (by omega)] at h3; simp at h3
    rw [List.getElem?_append_left hl]
    exact h3
theorem nodup_index (tb : List (List UInt8)) (h : tb.Nodup) (i j : Nat) (c : List UInt8) (hi : tb[i]? = some c) (hj : tb[j]? = some c) : i = j := by
  obtain ⟨hi1, hi2⟩ := List.getElem?_eq_some_iff.1 hi
  obtain ⟨hj1, hj2⟩ := List.getElem?_eq_some_iff.1 hj
  have hp := List.pairwise_iff_getElem.1 h
  rcases Nat.lt_trichotomy i j with hlt | rfl | hlt
  · exact absurd (hi2.trans hj2.symm) (hp i j hi1 hj1 hlt)
  · rfl
  · exact absurd (hj2.trans hi2.symm) (hp j i hj1 hi1 hlt)
/-- an expression has one number -/
theorem Num.one (tb : List (List UInt8)) (h : tb.Nodup) (x : Ex) : ∀ n m, Num tb x n → Num tb x m → n = m := by
  induction x using Ex.ind with
  | h k nm l ih =>
    intro n m hn hm
    rw [Num.def] at hn hm
    obtain ⟨ns, h1, h2, h3⟩ := hn
    obtain ⟨ms, g1, g2, g3⟩ := hm
    have e : ns = ms := by
      apply List.ext_getElem?
      intro i
      by_cases hi : i < l.length
      · have a1 : ns[i]? = some ns[i] := List.getElem?_eq_getElem (by omega)
        have a2 : ms[i]? = some ms[i] := List.getElem?_eq_getElem (by omega)
        have a3 : l[i]? = some l[i] := List.getElem?_eq_getElem hi
        rw [a1, a2, ih l[i] (List.getElem_mem hi) _ _ (h2 i _ _ a3 a1) (g2 i _ _ a3 a2)]
      · rw [List.getElem?_eq_none (by omega), List.getElem?_eq_none (by omega)]
    subst e
    exact nodup_index tb h n m _ h3 g3
/-- the sign by which a code begins tells its kind -/
theorem code_head (k : Nat) (nm : List UInt8) (ns : List Nat) (h : Shape k nm ns.length) : ∃ c r, code k nm ns = c :: r ∧
    ((k = 0 ∧ c.toNat = 48 ∧ r = []) ∨ (k = 1 ∧ c.toNat = 49 ∧ r = []) ∨ (k = 2 ∧ 97 ≤ c.toNat ∧ c.toNat ≤ 122 ∧ nm = c :: r) ∨ (k = 3 ∧ c.toNat = 94 ∧ nm = r) ∨ (k = 4 ∧ c.toNat = 126 ∧ nm = r) ∨ (k = 5 ∧ c.toNat = 33) ∨ (k = 6 ∧ c.toNat = 38) ∨ (k = 7 ∧ c.toNat = 124)) := by
  unfold code
  have hc : ∀ s : UInt8, ns ≠ [] → ∃ r, cat s ns = s :: r := by
    intro s hne
    match ns, hne with
    | a :: t, _ => exact ⟨_, cat_cons s a t⟩
  rcases h with ⟨h1, rfl, h3⟩ | ⟨h1, h2, h3, h4⟩ | ⟨rfl, rfl, h3⟩ | ⟨h1, h2, rfl, h4⟩
  · rw [if_pos (by omega)]
    by_cases h0 : k = 0
    · subst h0; exact ⟨48, [], by simp [text], .inl ⟨rfl, rfl, rfl⟩⟩
    · have : k = 1 := by omega
      subst this; exact ⟨49, [], by simp [text], .inr (.inl ⟨rfl, rfl, rfl⟩)⟩
  · rw [if_pos h2]
    obtain ⟨_, c, r, hnm, hc1, hc2⟩ := name_signs nm h3
    by_cases k2 : k = 2
    · subst k2; exact ⟨c, r, by simp [text, hnm], .inr (.inr (.inl ⟨rfl, hc1, hc2, hnm⟩))⟩
    · by_cases k3 : k = 3
      · subst k3; exact ⟨94, nm, by simp [text], .inr (.inr (.inr (.inl ⟨rfl, rfl, rfl⟩)))⟩
      · have k4 : k = 4 := by omega
        subst k4; exact ⟨126, nm, by simp [text], .inr (.inr (.inr (.inr (.inl ⟨rfl, rfl, rfl⟩))))⟩
  · rw [if_neg (by omega)]
    obtain ⟨r, hr⟩ := hc (sign 5) (by intro e; rw [e] at h3; simp at h3)
    exact ⟨33, r, hr, .inr (.inr (.inr (.inr (.inr (.inl ⟨rfl, rfl⟩)))))⟩
  · rw [if_neg (by omega)]
    obtain ⟨r, hr⟩ := hc (sign k) (by intro e; rw [e] at h4; simp at h4)
    by_cases k6 : k = 6
    · subst k6; exact ⟨38, r, hr, .inr (.inr (.inr (.inr (.inr (.inr (.inl ⟨rfl, rfl⟩))))))⟩
    · have k7 : k = 7 := by omega
      subst k7; exact ⟨124, r, hr, .inr (.inr (.inr (.inr (.inr (.inr (.inr ⟨rfl, rfl⟩))))))⟩
theorem sign_no (k : Nat) : ¬ (48 ≤ (sign k).toNat ∧ (sign k).toNat ≤ 57) := by
  unfold sign
  split
  · decide
  · split <;> decide
theorem code_inj (k j : Nat) (nm mm : List UInt8) (ns ms : List Nat) (h1 : Shape k nm ns.length) (h2 : Shape j mm ms.length) (h : code k nm ns = code j mm ms) : k = j ∧ nm = mm ∧ ns = ms := by
  obtain ⟨c, r, e1, q1⟩ := code_head k nm ns h1
  obtain ⟨d, t, e2, q2⟩ := code_head j mm ms h2
  have hcr := h
  rw [e1, e2] at hcr
  simp only [List.cons.injEq] at hcr
  obtain ⟨rfl, rfl⟩ := hcr
  have hk : k = j := by omega
  subst hk
  refine ⟨rfl, ?_, ?_⟩
  · by_cases k1 : k ≤ 1
    · rcases h1 with h1 | h1 | h1 | h1
      · rcases h2 with h2 | h2 | h2 | h2
        · rw [h1.2.1, h2.2.1]
        all_goals omega
      all_goals omega
    · by_cases k4 : k ≤ 4
      · rcases q1 with q1 | q1 | ⟨_, _, _, q1⟩ | ⟨_, _, q1⟩ | ⟨_, _, q1⟩ | q1 | q1 | q1
        all_goals try omega
        · rcases q2 with q2 | q2 | ⟨_, _, _, q2⟩ | q2 | q2 | q2 | q2 | q2
          all_goals try omega
          rw [q1, q2]
        · rcases q2 with q2 | q2 | q2 | ⟨_, _, q2⟩ | q2 | q2 | q2 | q2
          all_goals try omega
          rw [q1, q2]
        · rcases q2 with q2 | q2 | q2 | q2 | ⟨_, _, q2⟩ | q2 | q2 | q2
          all_goals try omega
          rw [q1, q2]
      · rcases h1 with h1 | h1 | h1 | h1
        · omega
        · omega
        · rcases h2 with h2 | h2 | h2 | h2
          · omega
          · omega
          · rw [h1.2.1, h2.2.1]
          · omega
        · rcases h2 with h2 | h2 | h2 | h2
          · omega
          · omega
          · omega
          · rw [h1.2.2.1, h2.2.2.1]
  · by_cases k4 : k ≤ 4
    · have z1 : ns.length = 0 := by rcases h1 with h1 | h1 | h1 | h1 <;> omega
      have z2 : ms.length = 0 := by rcases h2 with h2 | h2 | h2 | h2 <;> omega
      rw [List.length_eq_zero_iff.1 z1, List.length_eq_zero_iff.1 z2]
    · unfold code at h
      rw [if_neg k4, if_neg k4] at h
      exact cat_inj (sign k) (sign_no k) ns ms h
/-- a number stands for one expression -/
theorem Num.inj (tb : List (List UInt8)) (x : Ex) : ∀ (y : Ex) (n : Nat), Wf x → Wf y → Num tb x n → Num tb y n → x = y := by
  induction x using Ex.ind with
  | h k nm l ih =>
    intro y n hx hy hn hm
    obtain ⟨j, mm, l'⟩ := y
    rw [Num.def] at hn hm
    rw [Wf.def] at hx hy
    obtain ⟨ns, h1, h2, h3⟩ := hn
    obtain ⟨ms, g1, g2, g3⟩ := hm
    rw [h3] at g3
    obtain ⟨rfl, rfl, rfl⟩ := code_inj k j nm mm ns ms (by rw [h1]; exact hx.1) (by rw [g1]; exact hy.1) (Option.some.inj g3)
    have e : l = l' := by
      apply List.ext_getElem?
      intro i
      by_cases hi : i < ns.length
      · have a1 : ns[i]? = some ns[i] := List.getElem?_eq_getElem hi
        have a2 : l[i]? = some (l[i]'(by omega)) := List.getElem?_eq_getElem (by omega)
        have a3 : l'[i]? = some (l'[i]'(by omega)) := List.getElem?_eq_getElem (by omega)
        rw [a2, a3, ih _ (List.getElem_mem (by omega)) _ _ (hx.2 _ (List.getElem_mem (by omega))) (hy.2 _ (List.getElem_mem (by omega))) (h2 i _ _ a2 a1) (g2 i _ _ a3 a1)]
      · rw [List.getElem?_eq_none (by omega), List.getElem?_eq_none (by omega)]
    rw [e]
end Ex
end
section
namespace Ex
/-- what is left, and whether it is decided, behind one part more -/
def addS (k : Nat) (U : List Ex) (d : Bool) (x : Ex) : List Ex × Bool :=
  if x.kind ≤ 1 then (U, d || decide (x.kind = allK k)) else @ite _ (x ∈ U) (decMem x U) (U, d) (@ite _ (other x ∈ U) (decMem (other x) U) (U, true) (U ++ [x], d))
theorem addS_const (k : Nat) (U : List Ex) (d : Bool) (x : Ex) (h : x.kind ≤ 1) : addS k U d x = (U, d || decide (x.kind = allK k)) := by unfold addS; rw [if_pos h]
theorem addS_mem (k : Nat) (U : List Ex) (d : Bool) (x : Ex) (h : 2 ≤ x.kind) (hm : x ∈ U) : addS k U d x = (U, d) := by unfold addS; rw [if_neg (by omega), if_pos hm]
theorem addS_other (k : Nat) (U : List Ex) (d : Bool) (x : Ex) (h : 2 ≤ x.kind) (hm : x ∉ U) (ho : other x ∈ U) : addS k U d x = (U, true) := by unfold addS; rw [if_neg (by omega), if_neg hm, if_pos ho]
theorem addS_new (k : Nat) (U : List Ex) (d : Bool) (x : Ex) (h : 2 ≤ x.kind) (hm : x ∉ U) (ho : other x ∉ U) : addS k U d x = (U ++ [x], d) := by unfold addS; rw [if_neg (by omega), if_neg hm, if_neg ho]
/-- what has been gathered of these parts -/
def Gth (k : Nat) (L U : List Ex) (d : Bool) : Prop := (d = true ↔ dec k L) ∧ (d = false → U = addAll [] (nc L))
theorem Gth.nil (k : Nat) : Gth k [] [] false := by
  refine ⟨⟨by simp, ?_⟩, fun _ => rfl⟩
  rintro (⟨y, hy, _⟩ | ⟨y, hy, _⟩)
  · simp at hy
  · simp [nc] at hy
theorem Gth.rest {k : Nat} {L U : List Ex} (h : Gth k L U true) (M : List Ex) : Gth k (L ++ M) U true := by
  refine ⟨⟨fun _ => ?_, fun _ => rfl⟩, by simp⟩
  have := dec_mono k [] L M (h.1.1 rfl)
  simpa using this
theorem Gth.step {k : Nat} {L U : List Ex} {d : Bool} (h : Gth k L U d) (x : Ex) (hL : ∀ y, y ∈ L → Td y) (hx : Td x) : Gth k (L ++ [x]) (addS k U d x).1 (addS k U d x).2 := by
  have hs := dec_step k L x hL hx
  cases d with
  | true =>
    have hd := h.1.1 rfl
    have h2 : (addS k U true x).2 = true := by
      unfold addS
      split
      · simp
      · split
        · rfl
        · split <;> rfl
    rw [h2]
    exact ⟨⟨fun _ => hs.2 (.inl hd), fun _ => rfl⟩, by simp⟩
  | false =>
    have hnd : ¬ dec k L := fun e => by simpa using h.1.2 e
    have hU := h.2 rfl
    have hmem : ∀ y, y ∈ U ↔ y ∈ nc L := fun y => by rw [hU, mem_addAll]; simp
    by_cases hc : x.kind ≤ 1
    · rw [addS_const k U false x hc]
      have hn : nc (L ++ [x]) = nc L := by
        rw [nc_append]
        have : nc [x] = [] := by unfold nc; rw [List.filter_cons, if_neg (by simp; omega)]; rfl
        rw [this, List.append_nil]
      refine ⟨?_, fun _ => by rw [hn]; exact hU⟩
      rw [hs]
      simp only [Bool.false_or, decide_eq_true_eq]
      constructor
      · exact fun e => .inr (.inl e)
      · rintro (e | e | e)
        · exact absurd e hnd
        · exact e
        · omega
    · have h2 : 2 ≤ x.kind := by omega
      have hk : x.kind ≠ allK k := by have := allK_le k; omega
      have hn : nc (L ++ [x]) = nc L ++ [x] := by
        rw [nc_append]
        rw [nc_self [x] (by simpa using h2)]
      by_cases hm : x ∈ U
      · rw [addS_mem k U false x h2 hm]
        have hno : other x ∉ nc L := fun e => hnd (.inr ⟨x, (hmem x).1 hm, e⟩)
        refine ⟨?_, fun _ => ?_⟩
        · rw [hs]
          constructor
          · intro e; simp at e
          · rintro (e | e | e)
            · exact absurd e hnd
            · exact absurd e hk
            · exact absurd e.2 hno
        · rw [hn, addAll_append, ← hU, addAll_one_mem U x hm]
      · by_cases ho : other x ∈ U
        · rw [addS_other k U false x h2 hm ho]
          refine ⟨⟨fun _ => ?_, fun _ => rfl⟩, by simp⟩
          rw [hs]
          exact .inr (.inr ⟨h2, (hmem _).1 ho⟩)
        · rw [addS_new k U false x h2 hm ho]
          refine ⟨?_, fun _ => ?_⟩
          · rw [hs]
            constructor
            · intro e; simp at e
            · rintro (e | e | e)
              · exact absurd e hnd
              · exact absurd e hk
              · exact absurd ((hmem _).2 e.2) ho
          · rw [hn, addAll_append, ← hU, addAll_one_new U x hm]
theorem Gth.whole {k : Nat} {L U : List Ex} {d : Bool} (h : Gth k L U d) : gather k L = if d = true then ⟨allK k, [], []⟩ else wrap k U := by
  cases d with
  | true => rw [gather_dec k L (h.1.1 rfl)]; rfl
  | false => rw [gather_not k L (fun e => by simpa using h.1.2 e), h.2 rfl]; rfl
/-- the parts of a list that are added one behind the other -/
def addL (k : Nat) : List Ex → List Ex → Bool → List Ex × Bool
  | [], U, d => (U, d)
  | x :: r, U, d => addL k r (addS k U d x).1 (addS k U d x).2
theorem addL_snoc (k : Nat) (x : Ex) : ∀ (r U : List Ex) (d : Bool), addL k (r ++ [x]) U d = addS k (addL k r U d).1 (addL k r U d).2 x := by
  intro r
  induction r with
  | nil => intro U d; rfl
  | cons y t ih => intro U d; exact ih _ _
theorem Gth.list {k : Nat} {L U : List Ex} {d : Bool} (M : List Ex) (h : Gth k L U d) (hL : ∀ y, y ∈ L → Td y) (hM : ∀ y, y ∈ M → Td y) : Gth k (L ++ M) (addL k M U d).1 (addL k M U d).2 := by
  induction M generalizing L U d with
  | nil => simpa [addL] using h
  | cons x r ih =>
    have h1 := h.step x hL (hM x (by simp))
    have h2 := ih h1 (fun y hy => by
      rcases List.mem_append.1 hy with hy | hy
      · exact hL y hy
      · rw [List.mem_singleton.1 hy]; exact hM x (by simp)) (fun y hy => hM y (by simp [hy]))
    simpa [addL] using h2
/-- how many texts are numbered at the most -/
def cost : Ex → Nat
  | ⟨_, _, l⟩ => 1 + (l.map fun x => cost x + x.size).sum
theorem cost_def (k : Nat) (nm : List UInt8) (l : List Ex) : cost ⟨k, nm, l⟩ = 1 + (l.map fun x => cost x + x.size).sum := by simp [cost]
theorem cost_le (x : Ex) : cost x ≤ x.size * x.size := by
  induction x using Ex.ind with
  | h k nm l ih =>
    rw [cost_def, size_def]
    have hs : ∀ l : List Ex, (∀ x, x ∈ l → cost x ≤ x.size * x.size) → (l.map fun x => cost x + x.size).sum ≤ (l.map fun x => x.size).sum * (l.map fun x => x.size).sum + (l.map fun x => x.size).sum := by
      intro l
      induction l with
      | nil => intro _; simp
      | cons a r ihr =>
        intro h
        have h1 := h a (by simp)
        have h2 := ihr fun x hx => h x (by simp [hx])
        simp only [List.map_cons, List.sum_cons]
        generalize (r.map fun x => cost x + x.size).sum = p at *
        generalize (r.map fun x => x.size).sum = q at *
        generalize a.size = s at *
        generalize cost a = c at *
        have : (s + q) * (s + q) = s * s + s * q + (q * s + q * q) := by rw [Nat.add_mul, Nat.mul_add, Nat.mul_add]
        rw [this]
        have := Nat.zero_le (s * q)
        have := Nat.zero_le (q * s)
        omega
    have := hs l ih
    generalize (l.map fun x => cost x + x.size).sum = p at *
    generalize (l.map fun x => x.size).sum = q at *
    have e : (1 + q) * (1 + q) = 1 + q + (q + q * q) := by rw [Nat.add_mul, Nat.mul_add q 1 q]; omega
    rw [e]
    omega
theorem cost_pos (x : Ex) : 1 ≤ cost x := by obtain ⟨k, nm, l⟩ := x; rw [cost_def]; omega
/-- the parts that come of one are no more than it is great -/
theorem pieces_len (k : Nat) (x : Ex) (h : Wf x) : (pieces k x.tidy).length ≤ x.size := by
  have h1 := pieces_sum k x.tidy
  have h2 := size_tidy x h
  have h3 : ∀ L : List Ex, L.length ≤ (L.map fun x => x.size).sum := by
    intro L
    induction L with
    | nil => simp
    | cons a r ih =>
      have := size_pos a
      simp only [List.map_cons, List.sum_cons, List.length_cons]
      omega
  have := h3 (pieces k x.tidy)
  omega
theorem addS_len (k : Nat) (U : List Ex) (d : Bool) (x : Ex) : (addS k U d x).1.length ≤ U.length + 1 := by
  unfold addS
  split
  · simp
  · split
    · simp
    · split <;> simp
theorem addL_len (k : Nat) : ∀ (M U : List Ex) (d : Bool), (addL k M U d).1.length ≤ U.length + M.length := by
  intro M
  induction M with
  | nil => intro U d; simp [addL]
  | cons x r ih =>
    intro U d
    have h1 := ih (addS k U d x).1 (addS k U d x).2
    have h2 := addS_len k U d x
    show (addL k r (addS k U d x).1 (addS k U d x).2).1.length ≤ U.length + (x :: r).length
    simp only [List.length_cons]
    omega
end Ex
end
section
namespace Ld
/-- all that rungs ask was read -/
def Par (rs : List Rng) : Prop := ∀ g, g ∈ rs → ∀ x, g.cond = some x → ∃ l, Ex.parse l = .inr x
theorem take_par (r r' : Rdg) (st : Nat) (line : List UInt8) (h : Par r.rungs) (ht : take r st line = .inr r') : Par r'.rungs := by
  unfold take at ht
  cases hc : cutE line with
  | none =>
    rw [hc] at ht
    simp only at ht
    cases hn : rdName (words line) with
    | none => rw [hn] at ht; cases ht
    | some n =>
      rw [hn] at ht
      simp only at ht
      split at ht
      · cases ht; exact h
      · cases ht
  | some p =>
    obtain ⟨hd, t⟩ := p
    rw [hc] at ht
    simp only at ht
    cases hh : rdHead (words hd) with
    | none => rw [hh] at ht; cases ht
    | some q =>
      obtain ⟨k, nm⟩ := q
      rw [hh] at ht
      simp only at ht
      cases hp : Ex.parse t with
      | inl e => rw [hp] at ht; cases ht
      | inr x =>
        rw [hp] at ht
        cases ht
        intro g hg y hy
        rcases List.mem_append.1 hg with hg | hg
        · exact h g hg y hy
        · have : g = ⟨(k : Int), nm, some x⟩ := by simpa using hg
          subst this
          cases hy
          exact ⟨t, hp⟩
theorem takes_par : ∀ (l : List (Nat × List UInt8)) (r r' : Rdg), Par r.rungs → takes r l = .inr r' → Par r'.rungs
  | [], r, r', h, ht => by cases ht; exact h
  | p :: t, r, r', h, ht => by
    unfold takes at ht
    cases hk : take r p.1 p.2 with
    | inl e => rw [hk] at ht; cases ht
    | inr r2 =>
      rw [hk] at ht
      exact takes_par t r2 r' (take_par r r2 p.1 p.2 h hk) ht
theorem parse_par (l : List UInt8) (p : Prg) (h : parse l = .inr p) : Par p.rungs := by
  unfold parse at h
  split at h
  · cases h
  · split at h
    · cases h
    · rename_i r hr
      unfold checked at h
      split at h
      · cases h
        exact takes_par _ _ r (fun g hg => by cases hg) hr
      · cases h
      · cases h
end Ld
namespace Ex
theorem cost_sum (c : Nat) : ∀ (l : List Ex), (∀ y, y ∈ l → cost y ≤ c * y.size) → (l.map fun y => cost y + y.size).sum ≤ (c + 1) * (l.map fun y => y.size).sum
  | [], _ => by simp
  | a :: r, h => by
    have h1 := h a (by simp)
    have h2 := cost_sum c r fun y hy => h y (by simp [hy])
    simp only [List.map_cons, List.sum_cons]
    generalize (r.map fun y => cost y + y.size).sum = p at *
    generalize (r.map fun y => y.size).sum = q at *
    rw [Nat.mul_add, Nat.add_mul c 1 a.size]
    omega
theorem cost_one (c : Nat) (k : Nat) (nm : List UInt8) (l : List Ex) (h : ∀ y, y ∈ l → cost y ≤ c * y.size) : cost ⟨k, nm, l⟩ ≤ (c + 1) * size ⟨k, nm, l⟩ := by
  have := cost_sum c l h
  rw [cost_def, size_def]
  generalize (l.map fun y => cost y + y.size).sum = p at *
  generalize (l.map fun y => y.size).sum = q at *
  rw [Nat.mul_add]
  omega
theorem cost_fit : ∀ (D : Nat) (x : Ex), FitP D x → cost x ≤ 2 * D * x.size := by
  intro D
  induction D with
  | zero => intro x h; exact absurd h (by simp [FitP])
  | succ D ih =>
    have up : ∀ (y : Ex), cost y ≤ (2 * D + 1) * y.size → cost y ≤ 2 * (D + 1) * y.size := fun y h => Nat.le_trans h (Nat.mul_le_mul_right _ (by omega))
    have hq : ∀ y, FitQ (FitP D) y → cost y ≤ (2 * D + 1) * y.size := by
      intro y h
      rcases h with ⟨h1, h2, h3, h4⟩ | ⟨_, h2⟩
      · obtain ⟨k, nm, l⟩ := y
        exact cost_one (2 * D) k nm l fun z hz => ih z (h4 z hz)
      · exact Nat.le_trans (ih y h2) (Nat.mul_le_mul_right _ (by omega))
    intro x h
    obtain ⟨k, nm, l⟩ := x
    simp only [FitP] at h
    rcases h with ⟨h1, h2, h3⟩ | ⟨h1, h2, h3, h4⟩ | ⟨h1, h2, y, h3, h4⟩ | ⟨h1, h2, h3, h4⟩ | ⟨h1, h2, h3, h4⟩
    · subst h3; exact up _ (cost_one (2 * D) k nm [] (fun y hy => by cases hy))
    · subst h4; exact up _ (cost_one (2 * D) k nm [] (fun y hy => by cases hy))
    · subst h3
      exact up _ (cost_one (2 * D) k nm [y] (fun z hz => by rw [List.mem_singleton.1 hz]; exact ih y h4))
    · exact up _ (cost_one (2 * D) k nm l (fun z hz => ih z (h4 z hz)))
    · exact cost_one (2 * D + 1) k nm l (fun z hz => hq z (h4 z hz))
theorem cost_parse (l : List UInt8) (x : Ex) (h : parse l = .inr x) : cost x ≤ 84000 := by
  have h1 := cost_fit 21 x (FitW.piece 20 x (parse_fit l x h))
  have h2 := parse_bnd l x h
  have h3 : 2 * 21 * x.size ≤ 2 * 21 * 2000 := Nat.mul_le_mul_left _ (by omega)
  omega
end Ex
namespace Sl
theorem par_wf {p : Ld.Prg} (h : Ld.Par p.rungs) : WfP p := fun r hr x hx => by
  obtain ⟨l, hl⟩ := h r hr x hx
  exact Ex.parse_wf l x hl
end Sl
end
section
open Go.RowKit
/-- nothing is appended -/
theorem append_zero {W : World} (base : Nat) (t ty e : TypeId) (i : TypeInfo) (size : Nat) (ht : Tryz.prog.underlying t = some (.slice e)) (hi : Tryz.prog.info? e = some i) (v : Value) (n : Nat) (xs : List Value) (hown : W.ownsRow base e size v n xs) (a : Option Addr) (c : Nat) :
    (Builtin.append_ #[t, t] ty #[v, .slice a 0 c]).run Tryz.prog W = .ok v W := by
  rcases hown.2 with ⟨rfl, rfl⟩ | ⟨g, cap, cur, rfl, _, _, hnc, _⟩
  · cases a <;> simp [Builtin.append_, run_underlying ht, sizeOf, typeInfo, hi, Builtin.lenOf, Builtin.firstCells, loadCells, loadCellsFrom]
  · cases a <;> simp [Builtin.append_, run_underlying ht, sizeOf, typeInfo, hi, Builtin.lenOf, Builtin.firstCells, hnc, storeCells, loadCells, loadCellsFrom]
end
section
open Go.RowKit
theorem own_zero (W : World) (q : Nat) (e : TypeId) (s : Nat) (hq : q ≤ W.heap.size) : (W.alloc (.cells #[] e)).ownsRow q e s (.slice (some ⟨W.heap.size, 0, none⟩) 0 0) 0 [] :=
  ⟨by simp, .inr ⟨W.heap.size, 0, #[], rfl, hq, heap_alloc_new W _, Nat.le_refl _, by decide, by simp, by simp⟩⟩
theorem names_cells {W : World} {g : Nat} {ns : List Ld.Nme} (h : ∀ (i : Nat) (n : Ld.Nme), ns[i]? = some n → NameAt W g i n) : ∀ j u, (ns.flatMap nmCells)[j]? = some u → W.cell? ((⟨g, 0, none⟩ : Addr).add j) = some u := by
  intro j u hu
  have e : (⟨g, 0, none⟩ : Addr).add j = ⟨g, j, none⟩ := by unfold Addr.add; split <;> simp_all
  rw [e]
  have hl : ∀ l : List Ld.Nme, (l.flatMap nmCells).length = l.length * 3 := fun l => by
    induction l with
    | nil => rfl
    | cons a r ih => rw [List.flatMap_cons, List.length_append, ih, List.length_cons]; simp [nmCells]; omega
  have hj : j < ns.length * 3 := by rw [← hl]; exact (List.getElem?_eq_some_iff.1 hu).1
  have hi : j / 3 < ns.length := by omega
  have hn := List.getElem?_eq_getElem hi
  obtain ⟨h1, h2, h3, _⟩ := h (j / 3) _ hn
  have hf := flat3 nmCells (fun _ => rfl) ns (j / 3) _ hn (j % 3) (by omega)
  rw [show j / 3 * 3 + j % 3 = j by omega, hu] at hf
  have hm : j % 3 = 0 ∨ j % 3 = 1 ∨ j % 3 = 2 := by omega
  rcases hm with hm | hm | hm
  · rw [hm] at hf
    rw [show j = j / 3 * 3 by omega, h1]; exact hf.symm
  · rw [hm] at hf
    rw [show j = j / 3 * 3 + 1 by omega, h2]; exact hf.symm
  · rw [hm] at hf
    rw [show j = j / 3 * 3 + 2 by omega, h3]; exact hf.symm
theorem eqNil_none (w : World) (n c : Nat) : (binOp BinOp.eql 23 (.slice none n c) (.slice none 0 0)).run Tryz.prog w = .ok (.bool true) w := by kernel_rfl
theorem eqNil_some (w : World) (a : Addr) (n c : Nat) : (binOp BinOp.eql 23 (.slice (some a) n c) (.slice none 0 0)).run Tryz.prog w = .ok (.bool false) w := by kernel_rfl
set_option maxHeartbeats 2000000 in
set_option maxRecDepth 100000 in
theorem cloneN_any (ns : List Ld.Nme) (nv : Value) (w : World) (h : NamesAt w nv ns) :
    Calls Tryz.prog 29 #[nv] w fun e w' => ∃ v, e = .returned v ∧ NamesAt w' v ns ∧ Below w.heap.size w w' := by
  obtain ⟨i0, hi0, hz0, hz1, hz2⟩ := info_parts Tryz.infoName
  have q0 := fun n c => eqNil_none w n c
  have q1 := fun a n c => eqNil_some w a n c
  have HBA : Hid (Below w.heap.size w (w.alloc (.cells #[] 32))) := (Below.refl _ w).alloc (Nat.le_refl _) _
  rcases h with ⟨rfl, a, cap, rfl⟩ | ⟨g, cap, rfl, hcap, hlen, hat⟩
  · cases a with
    | none =>
      go_enter Tryz.func29, Tryz.ntmps29
      go_wp2_with fail
      go_ret
      exact ⟨_, rfl, .inl ⟨rfl, _, _, rfl⟩, Below.refl _ _⟩
    | some ad =>
      go_enter Tryz.func29, Tryz.ntmps29
      go_wp2_with (at_builtin; refine Lib.wpList_append_run _ rfl (.tmp 5) (.tmp 6) 23 23 rfl _ _ rfl rfl _ _ (append_zero w.heap.size _ _ _ i0 3 Tryz.underlying23 hi0 _ 0 [] (own_zero w w.heap.size 32 3 (Nat.le_refl _)) _ _) ?_)
      go_ret
      exact ⟨_, rfl, .inl ⟨rfl, _, _, rfl⟩, HBA.out⟩
  · by_cases hne : ns.length = 0
    · obtain rfl := List.length_eq_zero_iff.1 hne
      go_enter Tryz.func29, Tryz.ntmps29
      go_wp2_with (at_builtin; refine Lib.wpList_append_run _ rfl (.tmp 5) (.tmp 6) 23 23 rfl _ _ rfl rfl _ _ (append_zero w.heap.size _ _ _ i0 3 Tryz.underlying23 hi0 _ 0 [] (own_zero w w.heap.size 32 3 (Nat.le_refl _)) _ _) ?_)
      go_ret
      exact ⟨_, rfl, .inl ⟨rfl, _, _, rfl⟩, HBA.out⟩
    · have hlc : (ns.flatMap nmCells).length = ns.length * 3 := by
        clear hat hlen hcap hne
        induction ns with
        | nil => rfl
        | cons a r ih => rw [List.flatMap_cons, List.length_append, ih, List.length_cons]; simp [nmCells]; omega
      have HOWN : Hid ((w.alloc (.cells #[] 32)).ownsRow w.heap.size 32 3 (.slice (some ⟨w.heap.size, 0, none⟩) 0 0) 0 []) := own_zero w w.heap.size 32 3 (Nat.le_refl _)
      have HNEW : Hid (∀ j u, (ns.flatMap nmCells)[j]? = some u → (w.alloc (.cells #[] 32)).cell? ((⟨g, 0, none⟩ : Addr).add j) = some u) := names_cells (fun i n hi => (hat i n hi).below HBA.out)
      have HONE : Hid (∀ u ∈ ns.flatMap nmCells, u.oneCell' = true) := by
        intro u hu
        obtain ⟨n, _, hn⟩ := List.mem_flatMap.1 hu
        simp only [nmCells, List.mem_cons, List.not_mem_nil, or_false] at hn
        rcases hn with rfl | rfl | rfl <;> rfl
      have HAT := hide hat
      obtain ⟨n, hnn⟩ : ∃ n, n = ns.length := ⟨_, rfl⟩
      have HN := hide hnn
      have HLC := hide hlc
      rw [← hnn] at hlen hcap hne HLC ⊢
      clear hat hnn hlc
      have hn0 : 0 < n := by omega
      go_enter Tryz.func29, Tryz.ntmps29
      go_wp2_with (at_builtin; refine wpList_append_lies _ rfl (.tmp 5) (.tmp 6) 23 rfl w.heap.size 32 i0 _ 3 32 Tryz.underlying23 hi0 hz0 hz1 hz2 rfl (by decide) (.slice (some ⟨w.heap.size, 0, none⟩) 0 0) 0 [] rfl HOWN.out ⟨g, 0, none⟩ n cap (ns.flatMap nmCells) rfl HLC.out HNEW.out HONE.out hn0 (by unfold maxLen; omega) (by omega) (by simp) (w.heap.size + 1) (by simp) ?_; intro g2 cap2 wC hown hgrow hat2 hltg)
      go_ret
      refine ⟨_, rfl, ?_, HBA.out.grown hgrow (by simp) (fun j e => by simp only [Value.ownBlock, Option.some.injEq] at e; omega)⟩
      rcases hown.2 with ⟨hx, _⟩ | ⟨g3, cap3, cur, hx, _, hcur, hc3, _, _, htk⟩
      · cases hx
      · simp only [Value.slice.injEq, Option.some.injEq, Addr.mk.injEq] at hx
        obtain ⟨⟨rfl, _⟩, _, rfl⟩ := hx
        refine .inr ⟨g2, cap2, by rw [← HN.out]; rfl, by rw [← HN.out]; omega, by rw [← HN.out]; exact hlen, fun i y hy => ?_⟩
        have hc := fun j hj => flat3 nmCells (fun _ => rfl) ns i y hy j hj
        obtain ⟨_, _, _, k4⟩ := HAT.out i y hy
        exact ⟨row_cell hcur htk (hc 0 (by omega)), row_cell hcur htk (hc 1 (by omega)), row_cell hcur htk (hc 2 (by omega)), k4⟩
end
end Go.Proofs.YtgoabhclnicepaaGreatDoor
