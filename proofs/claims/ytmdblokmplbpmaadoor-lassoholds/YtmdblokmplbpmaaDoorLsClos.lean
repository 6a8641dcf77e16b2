/-
  The walks of slices.Contains over names, and of the functions that package lasso's now makes.
-/
import Derived.Test.YtmdblokmplbpmaaDoorLsUntil
namespace Go.Proofs.YtmdblokmplbpmaaDoor
namespace Ls
open Go.RowKit
set_option maxHeartbeats 2000000 in
set_option maxRecDepth 100000 in
theorem indexN_any (l : List (List UInt8)) (nm : List UInt8) (sv : Value) (w : World) (h : Strs w sv l) :
    Calls Tryd.prog 57 #[sv, .string ⟨nm.toArray⟩] w fun e w' => e = .returned (.int .i64 (idx (fun x => nm == x) l)) ∧ w' = w := by
  have hlen := h.len
  unfold maxLen at hlen
  have HR := hide h
  obtain ⟨a, cp, rfl⟩ := h.slice
  obtain ⟨n, hn⟩ : ∃ n, n = l.length := ⟨_, rfl⟩
  have HN := hide hn
  rw [← hn] at hlen HR ⊢
  clear h hn
  go_enter Tryd.func57, Tryd.ntmps57
  go_wp2_with fail
  go_loop [8] (fun i => ∃ k : Nat, k ≤ n ∧ i = .int .i64 (k : Int) ∧ Hid ((l.take k).any (fun x => nm == x) = false)) (fun i => n - (intOf i).toNat)
  case atStart => exact ⟨0, Nat.zero_le _, rfl, rfl⟩
  case round =>
    obtain ⟨k, hk, rfl, HT⟩ := hrel
    by_cases hlt : k < n
    · have hkl : k < l.length := by rw [← HN.out]; exact hlt
      obtain ⟨g, o, rfl, c0, hi⟩ := HR.out.cell k _ (List.getElem?_eq_getElem hkl)
      have HSU : Hid ((l.take (k + 1)).any (fun x => nm == x) = (nm == l[k])) := by show _ = _; rw [List.take_succ_eq_append_getElem hkl, List.any_append, HT.out]; simp
      have HHIT := hide (idx_hit (fun x => nm == x) l k hkl HT.out)
      clear hi
      generalize l[k] = x at *
      cases hp : (nm == x) with
      | true =>
        have HA := hide (HHIT.out hp)
        have e : nm = x := by simpa using hp
        subst e
        clear hp HHIT HSU
        go_wp2_with fail
        go_ret
        exact ⟨by rw [HA.out]; rfl, rfl⟩
      | false =>
        rw [hp] at HSU
        have e : ¬ nm = x := by simpa using hp
        go_wp2_with fail
        go_round
        case rel => exact ⟨k + 1, by omega, by go_num, HSU.out⟩
        case measure => simp [intOf]; omega
    · have hkn : k = n := by omega
      have HA : Hid (idx (fun x => nm == x) l = -1) := idx_none _ l (by have := HT.out; rw [List.take_of_length_le (by rw [← HN.out]; omega)] at this; exact this)
      subst hkn
      go_wp2_with fail
      go_ret
      exact ⟨by rw [HA.out]; rfl, rfl⟩
set_option maxHeartbeats 2000000 in
theorem containsN_any (l : List (List UInt8)) (nm : List UInt8) (sv : Value) (w : World) (h : Strs w sv l) :
    Calls Tryd.prog 40 #[sv, .string ⟨nm.toArray⟩] w fun e w' => e = .returned (.bool (l.contains nm)) ∧ w' = w := by
  have HI := hide (indexN_any l nm sv w h)
  have HA : Hid (decide (0 ≤ idx (fun x => nm == x) l) = l.contains nm) := by
    show _ = _
    rw [idx_any, List.contains_eq_any_beq]
  obtain ⟨a, cp, rfl⟩ := h.slice
  generalize idx (fun x => nm == x) l = r at *
  generalize l.contains nm = y at *
  generalize l.length = n at *
  clear h
  go_enter Tryd.func40, Tryd.ntmps40
  go_wp2_with fail
  refine HI.out.mono ?_
  rintro e w1 ⟨rfl, rfl⟩
  clear HI
  go_wp2_with fail
  go_ret
  exact ⟨by rw [← HA.out]; rfl, rfl⟩
set_option maxHeartbeats 2000000 in
set_option maxRecDepth 100000 in
theorem now1_any (L : List (List (List UInt8))) (r t : Nat) (ht : t < L.length) (nm : List UInt8) (a : Option Addr) (c bT bF b : Nat) (w : World) (hr : Rows w (.slice a L.length c) L) (hT : Tm w bT (.slice a L.length c) r) (hF : w.cell? ⟨bF, 0, none⟩ = some (.pointer (some ⟨b, 0, none⟩))) (hN : w.cell? ⟨b, 1, none⟩ = some (.string ⟨nm.toArray⟩)) :
    Calls Tryd.prog 39 #[.int .i64 (t : Int), .pointer (some ⟨bT, 0, none⟩), .pointer (some ⟨bF, 0, none⟩)] w fun e w' => e = .returned (.bool ((L.getD t []).contains nm)) ∧ Below w.heap.size w w' := by
  obtain ⟨g, o, rfl, u, d, c1, hs⟩ := hr.cell t _ (List.getElem?_eq_getElem ht)
  have hg : L.getD t [] = L[t] := by simp [List.getD_eq_getElem?_getD, ht]
  rw [hg]
  have HD := hide (drewB w)
  have HC := hide (fun k => containsN_any L[t] nm _ (w.drewN k) (hs.below ⟨rfl, rfl, rfl, Nat.le_refl _, fun _ _ => rfl⟩))
  obtain ⟨t0, t1⟩ := hT
  have hti : (t : Int) < (L.length : Int) := by omega
  have HBN : Hid (∀ n, Below w.heap.size w (w.drewN n)) := fun n => ⟨rfl, rfl, rfl, Nat.le_refl _, fun _ _ => rfl⟩
  clear hr hs hg
  generalize L[t].contains nm = y at *
  generalize L[t].length = m at *
  clear ht
  generalize L.length = n at *
  go_enter Tryd.func39, Tryd.ntmps39
  go_wp2_with fail
  go_quiet (first | (go_at_call 40; refine Calls.quiet_of_same (HC.out _)))
  all_goals
    go_wp2_with fail
    go_ret
    exact ⟨rfl, HBN.out _⟩
set_option maxHeartbeats 2000000 in
set_option maxRecDepth 100000 in
theorem now2_any (ok : Nat → Prop) (n t : Nat) (ht : t < n) (p q : Nat → Bool) (fp fq : Value) (bH bO : Nat) (w : World) (hh : w.cell? ⟨bH, 0, none⟩ = some (.slice (some ⟨bO, 0, none⟩) 2 2)) (h0 : w.cell? ⟨bO, 0, none⟩ = some fp) (h1 : w.cell? ⟨bO, 1, none⟩ = some fq) (hp : IsSo ok w fp n p) (hq : IsSo ok w fq n q) :
    Calls Tryd.prog 42 #[.int .i64 (t : Int), .pointer (some ⟨bH, 0, none⟩)] w fun e w' => e = .returned (.bool (p t && q t)) ∧ Below w.heap.size w w' := by
  obtain ⟨K, cs, rfl, _, hent1, hc1⟩ := hp
  obtain ⟨K2, cs2, rfl, _, hent2, hc2⟩ := hq
  have he1 : ∀ (args : Array Value) (w : World), (callFunc K args).run Tryd.prog w = .ok (.enter K args) w := hent1
  have he2 : ∀ (args : Array Value) (w : World), (callFunc K2 args).run Tryd.prog w = .ok (.enter K2 args) w := hent2
  have HC1 := hide (hc1 t w (Stay.refl _ _) ht)
  have HC2 := hide (fun W (hW : Below w.heap.size w W) => hc2 t W (Stay.of_below hW) ht)
  have HKS : Hid (∀ W, Below w.heap.size w W → W.cell? ⟨bH, 0, none⟩ = some (.slice (some ⟨bO, 0, none⟩) 2 2) ∧ W.cell? ⟨bO, 1, none⟩ = some (.func (.func K2) #[] cs2)) := fun W hW => ⟨kept hW hh, kept hW h1⟩
  clear hent1 hent2 hc1 hc2
  generalize p t = yp at *
  generalize q t = yq at *
  cases yp with
  | false =>
    go_enter Tryd.func42, Tryd.ntmps42
    go_wp2_with fail
    refine HC1.out.mono ?_
    rintro e w1 ⟨rfl, hb1⟩
    have HB1 := hide hb1
    clear hb1
    go_wp2_with fail
    go_ret
    exact ⟨rfl, HB1.out⟩
  | true =>
    go_enter Tryd.func42, Tryd.ntmps42
    go_wp2_with fail
    refine HC1.out.mono ?_
    rintro e w1 ⟨rfl, hb1⟩
    have HB1 := hide hb1
    obtain ⟨k0, k1⟩ := HKS.out w1 hb1
    have HCC := hide (HC2.out w1 hb1)
    clear hb1 hh h0 h1 HC1 HC2
    go_wp2_with fail
    refine HCC.out.mono ?_
    rintro e w2 ⟨rfl, hb2⟩
    have HB2 := hide (then_ HB1.out hb2)
    clear hb2
    go_wp2_with fail
    go_ret
    exact ⟨ret_bool (by rw [Bool.true_and]), HB2.out⟩
set_option maxHeartbeats 2000000 in
set_option maxRecDepth 100000 in
theorem now3_any (ok : Nat → Prop) (n t : Nat) (ht : t < n) (p q : Nat → Bool) (fp fq : Value) (bH bO : Nat) (w : World) (hh : w.cell? ⟨bH, 0, none⟩ = some (.slice (some ⟨bO, 0, none⟩) 2 2)) (h0 : w.cell? ⟨bO, 0, none⟩ = some fp) (h1 : w.cell? ⟨bO, 1, none⟩ = some fq) (hp : IsSo ok w fp n p) (hq : IsSo ok w fq n q) :
    Calls Tryd.prog 43 #[.int .i64 (t : Int), .pointer (some ⟨bH, 0, none⟩)] w fun e w' => e = .returned (.bool (p t || q t)) ∧ Below w.heap.size w w' := by
  obtain ⟨K, cs, rfl, _, hent1, hc1⟩ := hp
  obtain ⟨K2, cs2, rfl, _, hent2, hc2⟩ := hq
  have he1 : ∀ (args : Array Value) (w : World), (callFunc K args).run Tryd.prog w = .ok (.enter K args) w := hent1
  have he2 : ∀ (args : Array Value) (w : World), (callFunc K2 args).run Tryd.prog w = .ok (.enter K2 args) w := hent2
  have HC1 := hide (hc1 t w (Stay.refl _ _) ht)
  have HC2 := hide (fun W (hW : Below w.heap.size w W) => hc2 t W (Stay.of_below hW) ht)
  have HKS : Hid (∀ W, Below w.heap.size w W → W.cell? ⟨bH, 0, none⟩ = some (.slice (some ⟨bO, 0, none⟩) 2 2) ∧ W.cell? ⟨bO, 1, none⟩ = some (.func (.func K2) #[] cs2)) := fun W hW => ⟨kept hW hh, kept hW h1⟩
  clear hent1 hent2 hc1 hc2
  generalize p t = yp at *
  generalize q t = yq at *
  cases yp with
  | true =>
    go_enter Tryd.func43, Tryd.ntmps43
    go_wp2_with fail
    refine HC1.out.mono ?_
    rintro e w1 ⟨rfl, hb1⟩
    have HB1 := hide hb1
    clear hb1
    go_wp2_with fail
    go_ret
    exact ⟨rfl, HB1.out⟩
  | false =>
    go_enter Tryd.func43, Tryd.ntmps43
    go_wp2_with fail
    refine HC1.out.mono ?_
    rintro e w1 ⟨rfl, hb1⟩
    have HB1 := hide hb1
    obtain ⟨k0, k1⟩ := HKS.out w1 hb1
    have HCC := hide (HC2.out w1 hb1)
    clear hb1 hh h0 h1 HC1 HC2
    go_wp2_with fail
    refine HCC.out.mono ?_
    rintro e w2 ⟨rfl, hb2⟩
    have HB2 := hide (then_ HB1.out hb2)
    clear hb2
    go_wp2_with fail
    go_ret
    exact ⟨ret_bool (by rw [Bool.false_or]), HB2.out⟩
set_option maxHeartbeats 2000000 in
set_option maxRecDepth 100000 in
theorem now4_any (ok : Nat → Prop) (n r t : Nat) (hn : n ≤ 60) (hr : r < n) (ht : t < n) (p : Nat → Bool) (fp : Value) (bH bO bT : Nat) (a : Option Addr) (c : Nat) (w : World) (hT : Tm w bT (.slice a n c) r) (hh : w.cell? ⟨bH, 0, none⟩ = some (.slice (some ⟨bO, 0, none⟩) 1 1)) (h0 : w.cell? ⟨bO, 0, none⟩ = some fp) (hp : IsSo ok w fp n p) :
    Calls Tryd.prog 44 #[.int .i64 (t : Int), .pointer (some ⟨bH, 0, none⟩), .pointer (some ⟨bT, 0, none⟩)] w fun e w' => e = .returned (.bool (p (next n r t))) ∧ Below w.heap.size w w' := by
  obtain ⟨K, cs, rfl, _, hent1, hc1⟩ := hp
  have he1 : ∀ (args : Array Value) (w : World), (callFunc K args).run Tryd.prog w = .ok (.enter K args) w := hent1
  have HNX := hide (fun W => next_any n r t hn ht a c W)
  have HC1 := hide (fun W (hW : Below w.heap.size w W) => hc1 (next n r t) W (Stay.of_below hW) (next_lt hr t))
  obtain ⟨t0, t1⟩ := hT
  have HBN : Hid (∀ n, Below w.heap.size w (w.drewN n)) := fun n => ⟨rfl, rfl, rfl, Nat.le_refl _, fun _ _ => rfl⟩
  have HD := hide (drewB w)
  clear hc1 hent1
  generalize next n r t = s at *
  generalize p s = y at *
  go_enter Tryd.func44, Tryd.ntmps44
  go_wp2_with fail
  go_region_held3 (fun W => W.cell? ⟨bH, 0, none⟩ = some (.slice (some ⟨bO, 0, none⟩) 1 1) ∧ W.cell? ⟨bO, 0, none⟩ = some (.func (.func K) #[] cs) ∧ W.cell? ⟨bT, 0, none⟩ = some (.slice a n c) ∧ W.cell? ⟨bT, 1, none⟩ = some (.int .i64 (r : Int))) ((first
     | exact ⟨hh, h0, t0, t1⟩ | exact ⟨kept HD.out hh, kept HD.out h0, kept HD.out t0, kept HD.out t1⟩
     | exact ⟨kept HB1.out hh, kept HB1.out h0, kept HB1.out t0, kept HB1.out t1⟩
     | exact ⟨kept HB2.out hh, kept HB2.out h0, kept HB2.out t0, kept HB2.out t1⟩)) ((first
     | (go_at_call 45; refine (HNX.out _).mono ?_; rintro e w1 ⟨rfl, hb1⟩; have HB1 : Hid (Below w.heap.size w w1) := then_ HD.out hb1; clear hb1)
     | (refine (HC1.out _ HB1.out).mono ?_; rintro e w2 ⟨rfl, hb2⟩; have HB2 : Hid (Below w.heap.size w w2) := then_ HB1.out hb2; clear hb2)))
  all_goals
    go_wp2_with fail
    go_ret
    exact ⟨rfl, HB2.out⟩
end Ls
end Go.Proofs.YtmdblokmplbpmaaDoor
