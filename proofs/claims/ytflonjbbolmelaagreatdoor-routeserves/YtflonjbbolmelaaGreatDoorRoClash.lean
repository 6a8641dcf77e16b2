/-
  The walks of slices.IndexFunc and ContainsFunc over numbers and points, and of package route's Clash.
-/
import Derived.Test.YtflonjbbolmelaaGreatDoorRoAmong
namespace Go.Proofs.YtflonjbbolmelaaGreatDoor
namespace Ro
open Go.RowKit
set_option maxHeartbeats 2000000 in
set_option maxRecDepth 100000 in
theorem indexF_any (l : List Int) (sv f : Value) (D : Int → Prop) (p : Int → Bool) (w : World) (h : Ints w sv l) (hD : ∀ x, x ∈ l → D x) (hf : SPred w f D p) :
    Calls Tryz.prog 55 #[sv, f] w fun e w' => e = .returned (.int .i64 (idx p l)) ∧ Below w.heap.size w w' := by
  have hlen := h.len
  unfold maxLen at hlen
  have HR := hide h
  obtain ⟨a, cp, rfl⟩ := h.slice
  obtain ⟨n, hn⟩ : ∃ n, n = l.length := ⟨_, rfl⟩
  have HN := hide hn
  rw [← hn] at hlen HR ⊢
  obtain ⟨K, cs, rfl, hcs, hent, hcall⟩ := hf
  have hent' : ∀ (args : Array Value) (w : World), (callFunc K args).run Tryz.prog w = .ok (.enter K args) w := hent
  have HC := hide hcall
  have HDD := hide hD
  clear hcall hent h hn hD
  rcases hcs with ⟨c, rfl⟩ | ⟨c, d, rfl⟩
  all_goals
    go_enter Tryz.func55, Tryz.ntmps55
    go_wp2_with fail
    go_loopw [8] (fun i wr => ∃ k : Nat, k ≤ n ∧ i = .int .i64 (k : Int) ∧ Hid ((l.take k).any p = false) ∧ Hid (Below w.heap.size w wr)) (fun i _ => n - (intOf i).toNat)
    case atStart => exact ⟨0, Nat.zero_le _, rfl, rfl, Below.refl _ _⟩
    case round =>
      obtain ⟨k, hk, rfl, HT, HB⟩ := hrel
      by_cases hlt : k < n
      · have hkl : k < l.length := by rw [← HN.out]; exact hlt
        obtain ⟨g, o, rfl, c0, hi⟩ := (HR.out.below HB.out).cell k _ (List.getElem?_eq_getElem hkl)
        have HCL := hide (HC.out l[k] wr HB.out (HDD.out _ (List.getElem_mem hkl)))
        have HSU : Hid ((l.take (k + 1)).any p = p l[k]) := by show _ = _; rw [List.take_succ_eq_append_getElem hkl, List.any_append, HT.out]; simp
        have HHIT := hide (idx_hit p l k hkl HT.out)
        clear hi
        generalize l[k] = x at *
        go_wp2_with fail
        refine HCL.out.mono ?_
        rintro e w1 ⟨rfl, hb1⟩
        have HB1 := hide (HB.out.trans (hb1.mono HB.out.size))
        clear hb1 HCL
        cases hp : p x with
        | true =>
          have HA := hide (HHIT.out hp)
          clear hp
          go_wp2_with fail
          go_ret
          exact ⟨by rw [HA.out]; rfl, HB1.out⟩
        | false =>
          rw [hp] at HSU
          clear hp
          go_wp2_with fail
          go_roundw
          case rel => exact ⟨k + 1, by omega, by go_num, HSU.out, HB1.out⟩
          case measure => simp [intOf]; omega
      · have hkn : k = n := by omega
        have HA : Hid (idx p l = -1) := idx_none p l (by have := HT.out; rw [List.take_of_length_le (by rw [← HN.out]; omega)] at this; exact this)
        subst hkn
        go_wp2_with fail
        go_ret
        exact ⟨by rw [HA.out]; rfl, HB.out⟩
set_option maxHeartbeats 2000000 in
set_option maxRecDepth 100000 in
theorem containsF_any (l : List Int) (sv f : Value) (D : Int → Prop) (p : Int → Bool) (w : World) (h : Ints w sv l) (hD : ∀ x, x ∈ l → D x) (hf : SPred w f D p) :
    Calls Tryz.prog 41 #[sv, f] w fun e w' => e = .returned (.bool (l.any p)) ∧ Below w.heap.size w w' := by
  have HI := hide (indexF_any l sv f D p w h hD hf)
  have HA := hide (idx_any p l)
  obtain ⟨a, cp, rfl⟩ := h.slice
  obtain ⟨K, cs, rfl, hcs, _, _⟩ := hf
  generalize idx p l = r at *
  generalize l.any p = y at *
  generalize l.length = n at *
  clear h hD
  rcases hcs with ⟨c, rfl⟩ | ⟨c, d, rfl⟩
  all_goals
    go_enter Tryz.func41, Tryz.ntmps41
    go_wp2_with fail
    refine HI.out.mono ?_
    rintro e w1 ⟨rfl, hb1⟩
    have HB := hide hb1
    clear hb1 HI
    go_wp2_with fail
    go_ret
    exact ⟨by rw [← HA.out]; rfl, HB.out⟩
/-- where a list's first one is of which something holds: -1: nowhere -/
def idxP (p : Int × Bool → Bool) (l : List (Int × Bool)) : Int := (l.findIdx? p).elim (-1) fun j => (j : Int)
theorem idxP_hit (p : Int × Bool → Bool) (l : List (Int × Bool)) (k : Nat) (h : k < l.length) (h1 : (l.take k).any p = false) (h2 : p l[k] = true) : idxP p l = (k : Int) := by
  have : l.findIdx? p = some k := by
    rw [List.findIdx?_eq_some_iff_getElem]
    refine ⟨h, h2, fun j hj => ?_⟩
    rw [List.any_eq_false] at h1
    exact h1 _ (List.mem_take_iff_getElem.2 ⟨j, by omega, rfl⟩)
  rw [idxP, this]; rfl
theorem idxP_none (p : Int × Bool → Bool) (l : List (Int × Bool)) (h : l.any p = false) : idxP p l = -1 := by
  have : l.findIdx? p = none := by
    rw [List.findIdx?_eq_none_iff]
    rw [List.any_eq_false] at h
    intro x hx
    simpa using h x hx
  rw [idxP, this]; rfl
theorem idxP_any (p : Int × Bool → Bool) (l : List (Int × Bool)) : decide (0 ≤ idxP p l) = l.any p := by
  unfold idxP
  cases h : l.findIdx? p with
  | none =>
    rw [List.findIdx?_eq_none_iff] at h
    have : l.any p = false := by rw [List.any_eq_false]; intro x hx; simpa using h x hx
    rw [this]; rfl
  | some j =>
    have : l.any p = true := by
      obtain ⟨h1, h2, _⟩ := List.findIdx?_eq_some_iff_getElem.1 h
      exact List.any_eq_true.2 ⟨_, List.getElem_mem h1, h2⟩
    rw [this]
    simp
set_option maxHeartbeats 2000000 in
set_option maxRecDepth 100000 in
theorem indexP_any (l : List (Int × Bool)) (sv f : Value) (p : Int × Bool → Bool) (w : World) (h : Pts w sv l) (hf : QPred w f p) :
    Calls Tryz.prog 56 #[sv, f] w fun e w' => e = .returned (.int .i64 (idxP p l)) ∧ Below w.heap.size w w' := by
  have hlen := h.len
  unfold maxLen at hlen
  have HR := hide h
  obtain ⟨a, cp, rfl⟩ := h.slice
  obtain ⟨n, hn⟩ : ∃ n, n = l.length := ⟨_, rfl⟩
  have HN := hide hn
  rw [← hn] at hlen HR ⊢
  obtain ⟨K, c, rfl, hent, hcall⟩ := hf
  have hent' : ∀ (args : Array Value) (w : World), (callFunc K args).run Tryz.prog w = .ok (.enter K args) w := hent
  have HC := hide hcall
  have HDD := hide (fun x hx => h.i64 x hx)
  clear hcall hent h hn
  all_goals
    go_enter Tryz.func56, Tryz.ntmps56
    go_wp2_with fail
    go_loopw [8] (fun i wr => ∃ k : Nat, k ≤ n ∧ i = .int .i64 (k : Int) ∧ Hid ((l.take k).any p = false) ∧ Hid (Below w.heap.size w wr)) (fun i _ => n - (intOf i).toNat)
    case atStart => exact ⟨0, Nat.zero_le _, rfl, rfl, Below.refl _ _⟩
    case round =>
      obtain ⟨k, hk, rfl, HT, HB⟩ := hrel
      by_cases hlt : k < n
      · have hkl : k < l.length := by rw [← HN.out]; exact hlt
        obtain ⟨g, o, rfl, c0, c1, hi⟩ := (HR.out.below HB.out).cell k _ (List.getElem?_eq_getElem hkl)
        have HCL := hide (HC.out l[k] wr HB.out (HDD.out _ (List.getElem_mem hkl)))
        have HSU : Hid ((l.take (k + 1)).any p = p l[k]) := by show _ = _; rw [List.take_succ_eq_append_getElem hkl, List.any_append, HT.out]; simp
        have HHIT := hide (idxP_hit p l k hkl HT.out)
        clear hi
        unfold ptV at HCL
        generalize l[k] = x at *
        go_wp2_with fail
        refine HCL.out.mono ?_
        rintro e w1 ⟨rfl, hb1⟩
        have HB1 := hide (HB.out.trans (hb1.mono HB.out.size))
        clear hb1 HCL
        cases hp : p x with
        | true =>
          have HA := hide (HHIT.out hp)
          clear hp
          go_wp2_with fail
          go_ret
          exact ⟨by rw [HA.out]; rfl, HB1.out⟩
        | false =>
          rw [hp] at HSU
          clear hp
          go_wp2_with fail
          go_roundw
          case rel => exact ⟨k + 1, by omega, by go_num, HSU.out, HB1.out⟩
          case measure => simp [intOf]; omega
      · have hkn : k = n := by omega
        have HA : Hid (idxP p l = -1) := idxP_none p l (by have := HT.out; rw [List.take_of_length_le (by rw [← HN.out]; omega)] at this; exact this)
        subst hkn
        go_wp2_with fail
        go_ret
        exact ⟨by rw [HA.out]; rfl, HB.out⟩
set_option maxHeartbeats 2000000 in
set_option maxRecDepth 100000 in
theorem containsP_any (l : List (Int × Bool)) (sv f : Value) (p : Int × Bool → Bool) (w : World) (h : Pts w sv l) (hf : QPred w f p) :
    Calls Tryz.prog 42 #[sv, f] w fun e w' => e = .returned (.bool (l.any p)) ∧ Below w.heap.size w w' := by
  have HI := hide (indexP_any l sv f p w h hf)
  have HA := hide (idxP_any p l)
  obtain ⟨a, cp, rfl⟩ := h.slice
  obtain ⟨K, c, rfl, _, _⟩ := hf
  generalize idxP p l = r at *
  generalize l.any p = y at *
  generalize l.length = n at *
  clear h
  all_goals
    go_enter Tryz.func42, Tryz.ntmps42
    go_wp2_with fail
    refine HI.out.mono ?_
    rintro e w1 ⟨rfl, hb1⟩
    have HB := hide hb1
    clear hb1 HI
    go_wp2_with fail
    go_ret
    exact ⟨by rw [← HA.out]; rfl, HB.out⟩
set_option maxHeartbeats 2000000 in
set_option maxRecDepth 100000 in
theorem clash1_any (c : Nat) (f : Value) (p : Int × Bool → Bool) (x : Int × Bool) (hx : I64 x.1) (w : World) (c0 : w.cell? ⟨c, 0, none⟩ = some f) (hf : QPred w f p) :
    Calls Tryz.prog 40 #[ptV x, .pointer (some ⟨c, 0, none⟩)] w fun e w' => e = .returned (.bool (p (x.1, !x.2))) ∧ Below w.heap.size w w' := by
  obtain ⟨w1, hw1⟩ : ∃ w1, w1 = w.alloc (.cells #[.int .i64 x.1, .bool x.2] 85) := ⟨_, rfl⟩
  have HB : Hid (Below w.heap.size w w1) := by rw [hw1]; exact newB _ _
  have c1 := kept HB.out c0
  have hbl := World.block_lt_of_cell? _ _ c0
  obtain ⟨K, d, rfl, hent, hcall⟩ := hf
  have HC := hide (hcall (x.1, !x.2) w1 HB.out hx)
  unfold ptV at HC ⊢
  generalize p (x.1, !x.2) = y at *
  have HW := hide hw1
  clear hcall hw1
  obtain ⟨x1, x2⟩ := x
  simp only at HC HW hx
  have HWI : Hid (w1.cell? ⟨w.heap.size, 0, none⟩ = some (.int .i64 x1) ∧ w1.cell? ⟨w.heap.size, 1, none⟩ = some (.bool x2)) := by
    rw [HW.out]
    exact ⟨(RowIs.new w 85 [.int .i64 x1, .bool x2]).cell 0 _ rfl, (RowIs.new w 85 [.int .i64 x1, .bool x2]).cell 1 _ rfl⟩
  go_enter Tryz.func40, Tryz.ntmps40
  go_wp2_with fail
  rw [← HW.out]
  refine HC.out.mono ?_
  rintro e w2 ⟨rfl, hb2⟩
  have HB2 := hide (then_ HB.out hb2)
  clear hb2 HC
  go_wp2_with fail
  go_ret
  exact ⟨rfl, HB2.out⟩
end Ro
end Go.Proofs.YtflonjbbolmelaaGreatDoor
