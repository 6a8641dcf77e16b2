/-
  The walks of package lasso's hasWrong and Check.
-/
import Derived.Test.YtmdblokmplbpmaaDoorLsRight
namespace Go.Proofs.YtmdblokmplbpmaaDoor
namespace Ls
open Go.RowKit
/-- where a list's first one is of which something holds: -1: nowhere -/
def idx {α : Type} (p : α → Bool) (l : List α) : Int := (l.findIdx? p).elim (-1) fun j => (j : Int)
theorem idx_hit {α : Type} (p : α → Bool) (l : List α) (k : Nat) (h : k < l.length) (h1 : (l.take k).any p = false) (h2 : p l[k] = true) : idx p l = (k : Int) := by
  have : l.findIdx? p = some k := by
    rw [List.findIdx?_eq_some_iff_getElem]
    refine ⟨h, h2, fun j hj => ?_⟩
    rw [List.any_eq_false] at h1
    exact h1 _ (List.mem_take_iff_getElem.2 ⟨j, by omega, rfl⟩)
  rw [idx, this]; rfl
theorem idx_none {α : Type} (p : α → Bool) (l : List α) (h : l.any p = false) : idx p l = -1 := by
  have : l.findIdx? p = none := by
    rw [List.findIdx?_eq_none_iff]
    rw [List.any_eq_false] at h
    intro x hx
    simpa using h x hx
  rw [idx, this]; rfl
theorem idx_any {α : Type} (p : α → Bool) (l : List α) : decide (0 ≤ idx p l) = l.any p := by
  unfold idx
  cases h : l.findIdx? p with
  | none =>
    rw [List.findIdx?_eq_none_iff] at h
    have : l.any p = false := by rw [List.any_eq_false]; intro x hx; simpa using h x hx
    rw [this]; rfl
  | some j =>
    have : l.any p = true := by
      obtain ⟨h1, h2, _⟩ := List.findIdx?_eq_some_iff_getElem.1 h
      exact List.any_eq_true.2 ⟨_, List.getElem_mem h1, h2⟩
    rw [this]
    simp
/-- a name that is none -/
def badName (nm : List UInt8) : Bool := !Nm.name nm
def badRow (r : List (List UInt8)) : Bool := r.any badName
/-- what is wrong with a word -/
def check (A R : List (List (List UInt8))) : Option Nat := if R.length < 1 ∨ 60 < A.length + R.length then some 4 else if (A.any badRow || R.any badRow) = true then some 5 else none
theorem enter39 (args : Array Value) (w : World) : (callFunc 36 args).run Tryd.prog w = .ok (.enter 36 args) w := by kernel_rfl
theorem enter23 (args : Array Value) (w : World) : (callFunc 23 args).run Tryd.prog w = .ok (.enter 23 args) w := by kernel_rfl
set_option maxHeartbeats 2000000 in
theorem hasWrong1_any (nm : List UInt8) (w : World) (h : nm.length ≤ maxLen) : Calls Tryd.prog 36 #[.string ⟨nm.toArray⟩] w fun e w' => e = .returned (.bool (badName nm)) ∧ w' = w := by
  have HN := hide (name_at nm w h)
  have HB : Hid (badName nm = !Nm.name nm) := rfl
  generalize Nm.name nm = y at *
  generalize badName nm = z at *
  clear h
  go_enter Tryd.func36, Tryd.ntmps36
  go_wp2_with fail
  refine HN.out.mono ?_
  rintro e w1 ⟨rfl, rfl⟩
  clear HN
  go_wp2_with fail
  go_ret
  exact ⟨ret_bool HB.out.symm, rfl⟩
set_option maxHeartbeats 2000000 in
set_option maxRecDepth 100000 in
theorem indexS_any (l : List (List UInt8)) (sv : Value) (w : World) (h : Strs w sv l) :
    Calls Tryd.prog 52 #[sv, .func (.func 36) #[] #[]] w fun e w' => e = .returned (.int .i64 (idx badName l)) ∧ w' = w := by
  have hlen := h.len
  unfold maxLen at hlen
  have HR := hide h
  obtain ⟨a, cp, rfl⟩ := h.slice
  obtain ⟨n, hn⟩ : ∃ n, n = l.length := ⟨_, rfl⟩
  have HN := hide hn
  rw [← hn] at hlen HR ⊢
  have hent := enter39
  clear h hn
  go_enter Tryd.func52, Tryd.ntmps52
  go_wp2_with fail
  go_loop [8] (fun i => ∃ k : Nat, k ≤ n ∧ i = .int .i64 (k : Int) ∧ Hid ((l.take k).any badName = false)) (fun i => n - (intOf i).toNat)
  case atStart => exact ⟨0, Nat.zero_le _, rfl, rfl⟩
  case round =>
    obtain ⟨k, hk, rfl, HT⟩ := hrel
    by_cases hlt : k < n
    · have hkl : k < l.length := by rw [← HN.out]; exact hlt
      obtain ⟨g, o, rfl, c0, hi⟩ := HR.out.cell k _ (List.getElem?_eq_getElem hkl)
      have HCL := hide (hasWrong1_any l[k] w hi)
      have HSU : Hid ((l.take (k + 1)).any badName = badName l[k]) := by show _ = _; rw [List.take_succ_eq_append_getElem hkl, List.any_append, HT.out]; simp
      have HHIT := hide (idx_hit badName l k hkl HT.out)
      clear hi
      generalize l[k] = x at *
      go_wp2_with fail
      refine HCL.out.mono ?_
      rintro e w1 ⟨rfl, rfl⟩
      clear HCL
      cases hp : badName x with
      | true =>
        have HA := hide (HHIT.out hp)
        clear hp
        go_wp2_with fail
        go_ret
        exact ⟨by rw [HA.out]; rfl, rfl⟩
      | false =>
        rw [hp] at HSU
        clear hp
        go_wp2_with fail
        go_round
        case rel => exact ⟨k + 1, by omega, by go_num, HSU.out⟩
        case measure => simp [intOf]; omega
    · have hkn : k = n := by omega
      have HA : Hid (idx badName l = -1) := idx_none badName l (by have := HT.out; rw [List.take_of_length_le (by rw [← HN.out]; omega)] at this; exact this)
      subst hkn
      go_wp2_with fail
      go_ret
      exact ⟨by rw [HA.out]; rfl, rfl⟩
set_option maxHeartbeats 2000000 in
theorem containsS_any (l : List (List UInt8)) (sv : Value) (w : World) (h : Strs w sv l) :
    Calls Tryd.prog 35 #[sv, .func (.func 36) #[] #[]] w fun e w' => e = .returned (.bool (badRow l)) ∧ w' = w := by
  have HI := hide (indexS_any l sv w h)
  have HA : Hid (decide (0 ≤ idx badName l) = badRow l) := idx_any badName l
  obtain ⟨a, cp, rfl⟩ := h.slice
  generalize idx badName l = r at *
  generalize badRow l = y at *
  generalize l.length = n at *
  clear h
  go_enter Tryd.func35, Tryd.ntmps35
  go_wp2_with fail
  refine HI.out.mono ?_
  rintro e w1 ⟨rfl, rfl⟩
  clear HI
  go_wp2_with fail
  go_ret
  exact ⟨by rw [← HA.out]; rfl, rfl⟩
set_option maxHeartbeats 2000000 in
theorem hasWrong_any (l : List (List UInt8)) (sv : Value) (w : World) (h : Strs w sv l) : Calls Tryd.prog 23 #[sv] w fun e w' => e = .returned (.bool (badRow l)) ∧ w' = w := by
  have HC := hide (containsS_any l sv w h)
  obtain ⟨a, cp, rfl⟩ := h.slice
  generalize badRow l = y at *
  generalize l.length = n at *
  clear h
  go_enter Tryd.func23, Tryd.ntmps23
  go_wp2_with fail
  refine HC.out.mono ?_
  rintro e w1 ⟨rfl, rfl⟩
  clear HC
  go_wp2_with fail
  go_ret
  exact ⟨rfl, rfl⟩
set_option maxHeartbeats 2000000 in
set_option maxRecDepth 100000 in
theorem indexR_any (l : List (List (List UInt8))) (sv : Value) (w : World) (h : Rows w sv l) :
    Calls Tryd.prog 34 #[sv, .func (.func 23) #[] #[]] w fun e w' => e = .returned (.int .i64 (idx badRow l)) ∧ w' = w := by
  have hlen := h.len
  unfold maxLen at hlen
  have HR := hide h
  obtain ⟨a, cp, rfl⟩ := h.slice
  obtain ⟨n, hn⟩ : ∃ n, n = l.length := ⟨_, rfl⟩
  have HN := hide hn
  rw [← hn] at hlen HR ⊢
  have hent := enter23
  clear h hn
  go_enter Tryd.func34, Tryd.ntmps34
  go_wp2_with fail
  go_loop [8] (fun i => ∃ k : Nat, k ≤ n ∧ i = .int .i64 (k : Int) ∧ Hid ((l.take k).any badRow = false)) (fun i => n - (intOf i).toNat)
  case atStart => exact ⟨0, Nat.zero_le _, rfl, rfl⟩
  case round =>
    obtain ⟨k, hk, rfl, HT⟩ := hrel
    by_cases hlt : k < n
    · have hkl : k < l.length := by rw [← HN.out]; exact hlt
      obtain ⟨g, o, rfl, u, d, c0, hi⟩ := HR.out.cell k _ (List.getElem?_eq_getElem hkl)
      have HCL := hide (hasWrong_any l[k] _ w hi)
      have HSU : Hid ((l.take (k + 1)).any badRow = badRow l[k]) := by show _ = _; rw [List.take_succ_eq_append_getElem hkl, List.any_append, HT.out]; simp
      have HHIT := hide (idx_hit badRow l k hkl HT.out)
      clear hi
      generalize l[k] = x at *
      generalize x.length = m at *
      go_wp2_with fail
      refine HCL.out.mono ?_
      rintro e w1 ⟨rfl, rfl⟩
      clear HCL
      cases hp : badRow x with
      | true =>
        have HA := hide (HHIT.out hp)
        clear hp
        go_wp2_with fail
        go_ret
        exact ⟨by rw [HA.out]; rfl, rfl⟩
      | false =>
        rw [hp] at HSU
        clear hp
        go_wp2_with fail
        go_round
        case rel => exact ⟨k + 1, by omega, by go_num, HSU.out⟩
        case measure => simp [intOf]; omega
    · have hkn : k = n := by omega
      have HA : Hid (idx badRow l = -1) := idx_none badRow l (by have := HT.out; rw [List.take_of_length_le (by rw [← HN.out]; omega)] at this; exact this)
      subst hkn
      go_wp2_with fail
      go_ret
      exact ⟨by rw [HA.out]; rfl, rfl⟩
set_option maxHeartbeats 2000000 in
theorem containsR_any (l : List (List (List UInt8))) (sv : Value) (w : World) (h : Rows w sv l) :
    Calls Tryd.prog 22 #[sv, .func (.func 23) #[] #[]] w fun e w' => e = .returned (.bool (l.any badRow)) ∧ w' = w := by
  have HI := hide (indexR_any l sv w h)
  have HA : Hid (decide (0 ≤ idx badRow l) = l.any badRow) := idx_any badRow l
  obtain ⟨a, cp, rfl⟩ := h.slice
  generalize idx badRow l = r at *
  generalize l.any badRow = y at *
  generalize l.length = n at *
  clear h
  go_enter Tryd.func22, Tryd.ntmps22
  go_wp2_with fail
  refine HI.out.mono ?_
  rintro e w1 ⟨rfl, rfl⟩
  clear HI
  go_wp2_with fail
  go_ret
  exact ⟨by rw [← HA.out]; rfl, rfl⟩
/-- slices are never so long that two together pass what numbers tell -/
def mx : Nat := 140737488355328
set_option maxHeartbeats 2000000 in
set_option maxRecDepth 100000 in
theorem Check_any (A R : List (List (List UInt8))) (av rv : Value) (w : World) (hA : Rows w av A) (hR : Rows w rv R) (hla : A.length ≤ mx) (hlr : R.length ≤ mx) :
    Calls Tryd.prog 8 #[.agg #[av, rv]] w fun e w' => e = .returned (errV (check A R)) ∧ Below w.heap.size w w' := by
  have HB : Hid (∀ o : Obj, Below w.heap.size w (w.alloc o)) := fun o => (Below.refl _ _).alloc (Nat.le_refl _) _
  have HKA := hide (fun o => containsR_any A av (w.alloc o) (hA.below (HB.out o)))
  have HKR := hide (fun o => containsR_any R rv (w.alloc o) (hR.below (HB.out o)))
  have HC : Hid (check A R = if R.length < 1 ∨ 60 < A.length + R.length then some 4 else if (A.any badRow || R.any badRow) = true then some 5 else none) := rfl
  obtain ⟨aa, ac, rfl⟩ := hA.slice
  obtain ⟨ra, rc, rfl⟩ := hR.slice
  unfold mx at hla hlr
  generalize check A R = res at *
  generalize A.any badRow = ya at *
  generalize R.any badRow = yr at *
  generalize A.length = n at *
  generalize R.length = m at *
  clear hA hR
  by_cases h1 : m < 1
  · rw [if_pos (.inl h1)] at HC
    have h1i : (m : Int) < 1 := by omega
    go_enter Tryd.func8, Tryd.ntmps8
    go_wp2_with fail
    go_ret
    exact ⟨by rw [HC.out]; rfl, HB.out _⟩
  · have h1i : ¬ (m : Int) < 1 := by omega
    by_cases h2 : 60 < n + m
    · rw [if_pos (.inr h2)] at HC
      have h2i : (60 : Int) < (n : Int) + (m : Int) := by omega
      go_enter Tryd.func8, Tryd.ntmps8
      go_wp2_with fail
      go_ret
      exact ⟨by rw [HC.out]; rfl, HB.out _⟩
    · have h2i : ¬ (60 : Int) < (n : Int) + (m : Int) := by omega
      rw [if_neg (by omega)] at HC
      cases ya with
      | true =>
        rw [if_pos (by simp)] at HC
        go_enter Tryd.func8, Tryd.ntmps8
        go_wp2_with fail
        refine (HKA.out _).mono ?_
        rintro e w1 ⟨rfl, rfl⟩
        go_wp2_with fail
        go_ret
        exact ⟨by rw [HC.out]; rfl, HB.out _⟩
      | false =>
        cases yr with
        | true =>
          rw [if_pos (by simp)] at HC
          go_enter Tryd.func8, Tryd.ntmps8
          go_wp2_with fail
          refine (HKA.out _).mono ?_
          rintro e w1 ⟨rfl, rfl⟩
          go_wp2_with fail
          refine (HKR.out _).mono ?_
          rintro e w1 ⟨rfl, rfl⟩
          go_wp2_with fail
          go_ret
          exact ⟨by rw [HC.out]; rfl, HB.out _⟩
        | false =>
          rw [if_neg (by decide)] at HC
          go_enter Tryd.func8, Tryd.ntmps8
          go_wp2_with fail
          refine (HKA.out _).mono ?_
          rintro e w1 ⟨rfl, rfl⟩
          go_wp2_with fail
          refine (HKR.out _).mono ?_
          rintro e w1 ⟨rfl, rfl⟩
          go_wp2_with fail
          go_ret
          exact ⟨by rw [HC.out]; rfl, HB.out _⟩
end Ls
end Go.Proofs.YtmdblokmplbpmaaDoor
