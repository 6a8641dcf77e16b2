/-
  The walks of slices.IndexFunc, ContainsFunc and Equal over numbers, and of package block's inputs and hasState.
-/
import Derived.Test.YtdeijfkahhgojaaDoorBkBase
import Derived.Test.YtdeijfkahhgojaaDoorBkMath
namespace Go.Proofs.YtdeijfkahhgojaaDoor
namespace Bk
open Go.RowKit
set_option maxHeartbeats 2000000 in
set_option maxRecDepth 100000 in
theorem indexF_any (l : List Int) (sv f : Value) (D : Int → Prop) (p : Int → Bool) (w : World) (h : Ints w sv l) (hD : ∀ x, x ∈ l → D x) (hf : SPred w f D p) :
    Calls Tryd.prog 37 #[sv, f] w fun e w' => e = .returned (.int .i64 (idx p l)) ∧ Below w.heap.size w w' := by
  have hlen := h.len
  unfold maxLen at hlen
  have HR := hide h
  obtain ⟨a, cp, rfl⟩ := h.slice
  obtain ⟨n, hn⟩ : ∃ n, n = l.length := ⟨_, rfl⟩
  have HN := hide hn
  rw [← hn] at hlen HR ⊢
  obtain ⟨K, cs, rfl, hcs, hent, hcall⟩ := hf
  have hent' : ∀ (args : Array Value) (w : World), (callFunc K args).run Tryd.prog w = .ok (.enter K args) w := hent
  have HC := hide hcall
  have HDD := hide hD
  clear hcall hent h hn hD
  rcases hcs with ⟨c, rfl⟩ | ⟨c, d, rfl⟩
  all_goals
    go_enter Tryd.func37, Tryd.ntmps37
    go_wp2_with fail
    go_loopw [8] (fun i wr => ∃ k : Nat, k ≤ n ∧ i = .int .i64 (k : Int) ∧ Hid ((l.take k).any p = false) ∧ Hid (Below w.heap.size w wr)) (fun i _ => n - (intOf i).toNat)
    case atStart => exact ⟨0, Nat.zero_le _, rfl, rfl, Below.refl _ _⟩
    case round =>
      obtain ⟨k, hk, rfl, HT, HB⟩ := hrel
      by_cases hlt : k < n
      · have hkl : k < l.length := by rw [← HN.out]; exact hlt
        obtain ⟨g, o, rfl, c0, hi⟩ := (HR.out.below HB.out).cell k _ (List.getElem?_eq_getElem hkl)
        have HCL := hide (HC.out l[k] wr HB.out (HDD.out _ (List.getElem_mem hkl)))
        have HSU : Hid ((l.take (k + 1)).any p = p l[k]) := by show _ = _; rw [List.take_succ_eq_append_getElem hkl, List.any_append, HT.out]; simp
        have HHIT := hide (idx_hit p l k hkl HT.out)
        clear hi
        generalize l[k] = x at *
        go_wp2_with fail
        refine HCL.out.mono ?_
        rintro e w1 ⟨rfl, hb1⟩
        have HB1 := hide (HB.out.trans (hb1.mono HB.out.size))
        clear hb1 HCL
        cases hp : p x with
        | true =>
          have HA := hide (HHIT.out hp)
          clear hp
          go_wp2_with fail
          go_ret
          exact ⟨by rw [HA.out]; rfl, HB1.out⟩
        | false =>
          rw [hp] at HSU
          clear hp
          go_wp2_with fail
          go_roundw
          case rel => exact ⟨k + 1, by omega, by go_num, HSU.out, HB1.out⟩
          case measure => simp [intOf]; omega
      · have hkn : k = n := by omega
        have HA : Hid (idx p l = -1) := idx_none p l (by have := HT.out; rw [List.take_of_length_le (by rw [← HN.out]; omega)] at this; exact this)
        subst hkn
        go_wp2_with fail
        go_ret
        exact ⟨by rw [HA.out]; rfl, HB.out⟩
set_option maxHeartbeats 2000000 in
set_option maxRecDepth 100000 in
theorem containsF_any (l : List Int) (sv f : Value) (D : Int → Prop) (p : Int → Bool) (w : World) (h : Ints w sv l) (hD : ∀ x, x ∈ l → D x) (hf : SPred w f D p) :
    Calls Tryd.prog 23 #[sv, f] w fun e w' => e = .returned (.bool (l.any p)) ∧ Below w.heap.size w w' := by
  have HI := hide (indexF_any l sv f D p w h hD hf)
  have HA := hide (idx_any p l)
  obtain ⟨a, cp, rfl⟩ := h.slice
  obtain ⟨K, cs, rfl, hcs, _, _⟩ := hf
  generalize idx p l = r at *
  generalize l.any p = y at *
  generalize l.length = n at *
  clear h hD
  rcases hcs with ⟨c, rfl⟩ | ⟨c, d, rfl⟩
  all_goals
    go_enter Tryd.func23, Tryd.ntmps23
    go_wp2_with fail
    refine HI.out.mono ?_
    rintro e w1 ⟨rfl, hb1⟩
    have HB := hide hb1
    clear hb1 HI
    go_wp2_with fail
    go_ret
    exact ⟨by rw [← HA.out]; rfl, HB.out⟩
set_option maxHeartbeats 2000000 in
set_option maxRecDepth 100000 in
theorem equal_any (l m : List Int) (u v : Value) (w : World) (hu : Ints w u l) (hv : Ints w v m) :
    Calls Tryd.prog 34 #[u, v] w fun e w' => e = .returned (.bool (decide (l = m))) ∧ Below w.heap.size w w' := by
  have hlu := hu.len
  have hlv := hv.len
  unfold maxLen at hlu hlv
  have HU := hide hu
  have HV := hide hv
  obtain ⟨ua, uc, rfl⟩ := hu.slice
  obtain ⟨va, vc, rfl⟩ := hv.slice
  obtain ⟨n, hn⟩ : ∃ n, n = l.length := ⟨_, rfl⟩
  have HN := hide hn
  by_cases hlm : l.length = m.length
  · have HM : Hid (n = m.length) := hn.trans hlm
    rw [← hlm, ← hn] at HV
    rw [← hn] at HU
    rw [← hlm, ← hn]
    rw [← hn] at hlu
    clear hu hv hn hlm hlv
    go_enter Tryd.func34, Tryd.ntmps34
    go_wp2_with fail
    go_loopw [13] (fun i wr => ∃ k : Nat, k ≤ n ∧ i = .int .i64 (k : Int) ∧ Hid (l.take k = m.take k) ∧ Hid (Below w.heap.size w wr)) (fun i _ => n - (intOf i).toNat)
    case atStart => exact ⟨0, Nat.zero_le _, rfl, rfl, Below.refl _ _⟩
    case round =>
      obtain ⟨k, hk, rfl, HT, HB⟩ := hrel
      by_cases hlt : k < n
      · have hkl : k < l.length := by rw [← HN.out]; exact hlt
        have hkm : k < m.length := by rw [← HM.out]; exact hlt
        have hx := List.getElem?_eq_getElem hkl
        have hy := List.getElem?_eq_getElem hkm
        obtain ⟨g1, o1, rfl, d1, _⟩ := (HU.out.below HB.out).cell k _ hx
        obtain ⟨g2, o2, rfl, d2, _⟩ := (HV.out.below HB.out).cell k _ hy
        have HNO : Hid (l[k] ≠ m[k] → l ≠ m) := fun h e => by subst e; exact h rfl
        have HYS : Hid (l[k] = m[k] → l.take (k + 1) = m.take (k + 1)) := fun h => by rw [List.take_succ_eq_append_getElem hkl, List.take_succ_eq_append_getElem hkm, HT.out, h]
        generalize l[k] = x at *
        generalize m[k] = y at *
        clear hx hy
        by_cases hxy : x = y
        · subst hxy
          have HT1 := hide (HYS.out rfl)
          clear HYS HNO
          go_wp2_with fail
          go_quiet (fail)
          go_wp2_with fail
          go_roundw
          case rel => exact ⟨k + 1, by omega, by go_num, HT1.out, HB.out.trans ⟨rfl, rfl, rfl, Nat.le_refl _, fun _ _ => rfl⟩⟩
          case measure => simp [intOf]; omega
        · have HNE := hide (HNO.out hxy)
          clear HYS HNO
          have hxy2 : (x == y) = false := by simpa using hxy
          go_wp2_with fail
          go_quiet (fail)
          go_wp2_with fail
          go_ret
          exact ⟨ret_bool (decide_eq_false HNE.out).symm, HB.out.trans ⟨rfl, rfl, rfl, Nat.le_refl _, fun _ _ => rfl⟩⟩
      · have hkn : k = n := by omega
        subst hkn
        have HE : Hid (l = m) := by have := HT.out; rw [List.take_of_length_le (by rw [← HN.out]; omega), List.take_of_length_le (by rw [← HM.out]; omega)] at this; exact this
        go_wp2_with fail
        go_ret
        exact ⟨ret_bool (decide_eq_true HE.out).symm, HB.out⟩
  · have HNE : Hid (l ≠ m) := fun e => hlm (by rw [e])
    obtain ⟨n2, hn2⟩ : ∃ n, n = m.length := ⟨_, rfl⟩
    rw [← hn, ← hn2] at hlm
    have hlmi : ¬ (n : Int) = (n2 : Int) := by omega
    rw [← hn, ← hn2]
    clear hu hv hn hn2 HU HV
    go_enter Tryd.func34, Tryd.ntmps34
    go_wp2_with fail
    go_ret
    exact ⟨ret_bool (decide_eq_false HNE.out).symm, Below.refl _ _⟩
set_option maxHeartbeats 2000000 in
set_option maxRecDepth 100000 in
theorem inputs_any (N : List (List Int)) (r : List Int) (nv tv : Value) (w : World) (hN : Rows w nv N) (h0 : N[0]? = some r) (ht : ∃ a n c, tv = .slice a n c) :
    Calls Tryd.prog 22 #[.agg #[nv, tv]] w fun e w' => e = .returned (.int .i64 (r.length : Int)) ∧ Below w.heap.size w w' := by
  obtain ⟨ta, tn, tc, rfl⟩ := ht
  have hpos : 0 < N.length := (List.getElem?_eq_some_iff.1 h0).1
  obtain ⟨a, c, rfl⟩ := hN.slice
  obtain ⟨g, o, rfl, u, d, e1, _⟩ := hN.cell 0 r h0
  have hgl := World.block_lt_of_cell? _ _ e1
  simp only [Nat.add_zero] at e1
  have hp : (0 : Int) < (N.length : Int) := by omega
  generalize N.length = n at *
  generalize r.length = m at *
  clear hN h0
  go_enter Tryd.func22, Tryd.ntmps22
  go_wp2_with fail
  go_ret
  exact ⟨rfl, (Below.refl _ _).alloc (Nat.le_refl _) _⟩
set_option maxHeartbeats 2000000 in
set_option maxRecDepth 100000 in
theorem hasState_any (x : Int) (n : Nat) (a : Option Addr) (c : Nat) (tv : Value) (w : World) (ht : ∃ a n c, tv = .slice a n c) :
    Calls Tryd.prog 25 #[.agg #[.slice a n c, tv], .int .i64 x] w fun e w' => e = .returned (.bool (hasB n x)) ∧ Below w.heap.size w w' := by
  obtain ⟨ta, tn, tc, rfl⟩ := ht
  by_cases h1 : 0 ≤ x
  · by_cases h2 : x < (n : Int)
    · go_enter Tryd.func25, Tryd.ntmps25
      go_wp2_with fail
      go_ret
      exact ⟨ret_bool (by simp [hasB, h1, h2]), (Below.refl _ _).alloc (Nat.le_refl _) _⟩
    · go_enter Tryd.func25, Tryd.ntmps25
      go_wp2_with fail
      go_ret
      exact ⟨ret_bool (by simp [hasB, h1, h2]), (Below.refl _ _).alloc (Nat.le_refl _) _⟩
  · go_enter Tryd.func25, Tryd.ntmps25
    go_wp2_with fail
    go_ret
    exact ⟨ret_bool (by simp [hasB]; omega), (Below.refl _ _).alloc (Nat.le_refl _) _⟩
end Bk
end Go.Proofs.YtdeijfkahhgojaaDoor
