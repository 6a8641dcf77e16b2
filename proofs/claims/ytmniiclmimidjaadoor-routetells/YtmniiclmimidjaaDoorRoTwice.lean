/-
  The walks of package route's hasBeyond and hasTwice, and of slices.Index and Contains over numbers.
-/
import Derived.Test.YtmniiclmimidjaaDoorRoWrong
namespace Go.Proofs.YtmniiclmimidjaaDoor
namespace Ro
open Go.RowKit
set_option maxHeartbeats 2000000 in
theorem hasBeyond1_any (b : Nat) (m n : Int) (w : World) (c0 : w.cell? ⟨b, 0, none⟩ = some (.int .i64 m)) (hm0 : 0 ≤ m) (hm : m ≤ 100) :
    Calls Tryd.prog 40 #[.int .i64 n, .pointer (some ⟨b, 0, none⟩)] w fun e w' => e = .returned (.bool (!fromTo 0 (m - 1) n)) ∧ w' = w := by
  have HF := hide (isFrom_any 0 (m - 1) n w)
  generalize fromTo 0 (m - 1) n = y at *
  go_enter Tryd.func40, Tryd.ntmps40
  go_wp2_with fail
  refine HF.out.mono ?_
  rintro e w1 ⟨rfl, rfl⟩
  go_wp2_with fail
  go_ret
  exact ⟨rfl, rfl⟩
set_option maxHeartbeats 2000000 in
theorem hasBeyond_any (l : List Int) (m : Int) (sv : Value) (w : World) (h : Ints w sv l) (hm0 : 0 ≤ m) (hm : m ≤ 100) :
    Calls Tryd.prog 30 #[sv, .int .i64 m] w fun e w' => e = .returned (.bool (beyond l m)) ∧ Below w.heap.size w w' := by
  obtain ⟨wA, hwA⟩ : ∃ wA, wA = w.alloc (.cells #[.int .i64 m] 3) := ⟨_, rfl⟩
  have hbA : Below w.heap.size w wA := by rw [hwA]; exact newB _ _
  have hc : wA.cell? ⟨w.heap.size, 0, none⟩ = some (.int .i64 m) := by rw [hwA]; exact (RowIs.new w 3 [.int .i64 m]).cell 0 _ rfl
  have hS : SPred wA (.func (.func 40) #[] #[.pointer (some ⟨w.heap.size, 0, none⟩)]) (fun _ => True) (fun n => !fromTo 0 (m - 1) n) :=
    ⟨_, _, rfl, .inl ⟨_, rfl⟩, fun args w => by kernel_rfl, fun x W hW _ => (hasBeyond1_any w.heap.size m x W (kept hW hc) hm0 hm).mono fun e w' ⟨h1, h2⟩ => ⟨h1, by rw [h2]; exact Below.refl _ _⟩⟩
  have HC := hide (containsF_any l sv _ (fun _ => True) _ wA (h.below hbA) (fun _ _ => trivial) hS)
  have HB := hide hbA
  have HW := hide hwA
  obtain ⟨a, c, rfl⟩ := h.slice
  have HBY : Hid ((l.any fun n => !fromTo 0 (m - 1) n) = beyond l m) := rfl
  rw [HBY.out] at HC
  generalize beyond l m = y at *
  clear hS hc hbA hwA h
  go_enter Tryd.func30, Tryd.ntmps30
  go_wp2_with fail
  rw [← HW.out]
  refine HC.out.mono ?_
  rintro e w1 ⟨rfl, hb1⟩
  have HB1 := hide (then_ HB.out hb1)
  clear hb1
  go_wp2_with fail
  go_ret
  exact ⟨rfl, HB1.out⟩
set_option maxHeartbeats 2000000 in
set_option maxRecDepth 100000 in
theorem indexI_any (l : List Int) (x : Int) (sv : Value) (w : World) (h : Ints w sv l) :
    Calls Tryd.prog 49 #[sv, .int .i64 x] w fun e w' => e = .returned (.int .i64 (idx (fun y => y == x) l)) ∧ Below w.heap.size w w' := by
  have hlen := h.len
  unfold maxLen at hlen
  have HR := hide h
  obtain ⟨a, cp, rfl⟩ := h.slice
  obtain ⟨n, hn⟩ : ∃ n, n = l.length := ⟨_, rfl⟩
  have HN := hide hn
  rw [← hn] at hlen HR ⊢
  clear h hn
  go_enter Tryd.func49, Tryd.ntmps49
  go_wp2_with fail
  go_loopw [8] (fun i wr => ∃ k : Nat, k ≤ n ∧ i = .int .i64 (k : Int) ∧ Hid ((l.take k).any (fun y => y == x) = false) ∧ Hid (Below w.heap.size w wr)) (fun i _ => n - (intOf i).toNat)
  case atStart => exact ⟨0, Nat.zero_le _, rfl, rfl, Below.refl _ _⟩
  case round =>
    obtain ⟨k, hk, rfl, HT, HB⟩ := hrel
    by_cases hlt : k < n
    · have hkl : k < l.length := by rw [← HN.out]; exact hlt
      obtain ⟨g, o, rfl, c0, hi⟩ := (HR.out.below HB.out).cell k _ (List.getElem?_eq_getElem hkl)
      have HSU : Hid ((l.take (k + 1)).any (fun y => y == x) = (l[k] == x)) := by show _ = _; rw [List.take_succ_eq_append_getElem hkl, List.any_append, HT.out]; simp
      have HHIT := hide (idx_hit (fun y => y == x) l k hkl HT.out)
      clear hi
      generalize l[k] = z at *
      by_cases hz : z = x
      · subst hz
        have HA := hide (HHIT.out (by simp))
        clear HHIT HSU
        go_wp2_with fail
        go_ret
        exact ⟨by rw [HA.out]; rfl, HB.out⟩
      · have hzb : (z == x) = false := by simpa using hz
        have hzc : (x == z) = false := by simpa using fun e : x = z => hz e.symm
        rw [hzb] at HSU
        clear HHIT
        go_wp2_with fail
        go_roundw
        case rel => exact ⟨k + 1, by omega, by go_num, HSU.out, HB.out⟩
        case measure => simp [intOf]; omega
    · have hkn : k = n := by omega
      have HA : Hid (idx (fun y => y == x) l = -1) := idx_none _ l (by have := HT.out; rw [List.take_of_length_le (by rw [← HN.out]; omega)] at this; exact this)
      subst hkn
      go_wp2_with fail
      go_ret
      exact ⟨by rw [HA.out]; rfl, HB.out⟩
set_option maxHeartbeats 2000000 in
theorem containsI_any (l : List Int) (x : Int) (sv : Value) (w : World) (h : Ints w sv l) :
    Calls Tryd.prog 41 #[sv, .int .i64 x] w fun e w' => e = .returned (.bool (l.contains x)) ∧ Below w.heap.size w w' := by
  have HI := hide (indexI_any l x sv w h)
  have HA : Hid (decide (0 ≤ idx (fun y => y == x) l) = l.contains x) := by
    show _ = _
    rw [idx_any, Bool.eq_iff_iff, List.any_eq_true, List.contains_iff_mem]
    constructor
    · rintro ⟨y, hy, e⟩
      obtain rfl : y = x := by simpa using e
      exact hy
    · exact fun hx => ⟨x, hx, by simp⟩
  obtain ⟨a, cp, rfl⟩ := h.slice
  generalize idx (fun y => y == x) l = r at *
  generalize l.contains x = y at *
  generalize l.length = n at *
  clear h
  go_enter Tryd.func41, Tryd.ntmps41
  go_wp2_with fail
  refine HI.out.mono ?_
  rintro e w1 ⟨rfl, hb1⟩
  have HB := hide hb1
  clear hb1 HI
  go_wp2_with fail
  go_ret
  exact ⟨by rw [← HA.out]; rfl, HB.out⟩
theorem Ints.take {w : World} {g o n c : Nat} {l : List Int} (h : Ints w (.slice (some ⟨g, o, none⟩) n c) l) (k : Nat) (hk : k ≤ l.length) : Ints w (.slice (some ⟨g, o, none⟩) k c) (l.take k) := by
  obtain ⟨a', c', h1, h2, h3⟩ := h
  simp only [Value.slice.injEq] at h1
  obtain ⟨rfl, rfl, rfl⟩ := h1
  have hl : (l.take k).length = k := by rw [List.length_take]; omega
  refine ⟨_, _, by rw [hl], by omega, fun j x hx => ?_⟩
  have hj : j < k := by have := (List.getElem?_eq_some_iff.1 hx).1; omega
  rw [List.getElem?_take_of_lt hj] at hx
  obtain ⟨g', o', e1, e2, e3⟩ := h3 j x hx
  exact ⟨g', o', e1, by omega, e3⟩
set_option maxHeartbeats 4000000 in
set_option maxRecDepth 100000 in
theorem hasTwice_any (l : List Int) (sv : Value) (w : World) (h : Ints w sv l) :
    Calls Tryd.prog 31 #[sv] w fun e w' => e = .returned (.bool (twice l)) ∧ Below w.heap.size w w' := by
  have hlen := h.len
  unfold maxLen at hlen
  have HR := hide h
  obtain ⟨a, cp, rfl⟩ := h.slice
  obtain ⟨n, hn⟩ : ∃ n, n = l.length := ⟨_, rfl⟩
  have HN := hide hn
  rw [← hn] at hlen HR ⊢
  have hcap : 0 < n → n ≤ cp := fun h0 => by
    obtain ⟨a', c', h1, h2, h3⟩ := h
    simp only [Value.slice.injEq] at h1
    obtain ⟨g', o', e1, e2, e3⟩ := h3 0 _ (List.getElem?_eq_getElem (by omega))
    omega
  have HCAP := hide hcap
  clear h hn hcap
  go_enter Tryd.func31, Tryd.ntmps31
  go_wp2_with fail
  go_loopw [7] (fun i wr => ∃ k : Nat, k ≤ n ∧ i = .int .i64 (k : Int) ∧ Hid ((l.take k).Nodup) ∧ Hid (Below w.heap.size w wr)) (fun i _ => n - (intOf i).toNat)
  case atStart => exact ⟨0, Nat.zero_le _, rfl, by simp [Hid], Below.refl _ _⟩
  case round =>
    obtain ⟨k, hk, rfl, HT, HB⟩ := hrel
    by_cases hlt : k < n
    · have hkl : k < l.length := by rw [← HN.out]; exact hlt
      obtain ⟨g, o, rfl, c0, hi⟩ := (HR.out.below HB.out).cell k _ (List.getElem?_eq_getElem hkl)
      have HCT := hide (containsI_any (l.take k) l[k] _ wr ((HR.out.below HB.out).take k (by omega)))
      have HST := hide (take_nodup l k hkl)
      have hcp := HCAP.out (by omega)
      have hkc : k ≤ cp := by omega
      have hki : (k : Int) < (n : Int) := by omega
      have HNO : Hid ((l.take k).contains l[k] = true → twice l = true) := fun hc => by
        unfold twice
        rw [Bool.not_eq_true', decide_eq_false_iff_not]
        intro hd
        have h1 : (l.take (k + 1)).Nodup := hd.sublist (List.take_sublist _ _)
        rw [HST.out, hc] at h1
        cases h1.2
      clear hi
      generalize l[k] = x at *
      cases hc : (l.take k).contains x with
      | true =>
        have HTW := hide (HNO.out hc)
        rw [hc] at HCT
        clear hc HNO HST
        go_wp2_with fail
        refine HCT.out.mono ?_
        rintro e w1 ⟨rfl, hb1⟩
        have HB1 := hide (then_ HB.out hb1)
        clear hb1
        go_wp2_with fail
        go_ret
        exact ⟨by rw [HTW.out]; rfl, HB1.out⟩
      | false =>
        have HTK := hide (HST.out.2 ⟨HT.out, hc⟩)
        rw [hc] at HCT
        clear hc HNO HST
        go_wp2_with fail
        refine HCT.out.mono ?_
        rintro e w1 ⟨rfl, hb1⟩
        have HB1 := hide (then_ HB.out hb1)
        clear hb1
        go_wp2_with fail
        go_roundw
        case rel => exact ⟨k + 1, by omega, by go_num, HTK.out, HB1.out⟩
        case measure => simp [intOf]; omega
    · have hkn : k = n := by omega
      have HTW : Hid (twice l = false) := by
        have h := HT.out
        rw [List.take_of_length_le (by rw [← HN.out]; omega)] at h
        show _ = _
        unfold twice
        rw [decide_eq_true h]; rfl
      subst hkn
      go_wp2_with fail
      go_ret
      exact ⟨by rw [HTW.out]; rfl, HB.out⟩
end Ro
end Go.Proofs.YtmniiclmimidjaaDoor
