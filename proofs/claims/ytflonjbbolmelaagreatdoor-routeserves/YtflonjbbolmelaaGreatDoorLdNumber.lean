/-
  The walks of package ladder's small functions, of slices.IndexFunc over names, and of Number.
-/
import Derived.Test.YtflonjbbolmelaaGreatDoorLdRepAll
import Derived.Test.YtflonjbbolmelaaGreatDoorKeStrsAll
namespace Go.Proofs.YtflonjbbolmelaaGreatDoor
open Go.RowKit
theorem isCounted_any (k : Int) (w : World) : Calls Tryz.prog 75 #[.int .i64 k] w fun e w' => e = .returned (.bool (Ld.counted k)) ∧ w' = w := by
  by_cases h3 : k = 3 <;> by_cases h4 : k = 4
  all_goals
    go_enter Tryz.func75, Tryz.ntmps75
    go_wp2
    go_ret
    exact ⟨by simp [Ld.counted, *], rfl⟩
theorem kindOf_any (k : Int) (w : World) : Calls Tryz.prog 59 #[.int .i64 k] w fun e w' => e = .returned (.int .i64 (Ld.kindOf k)) ∧ w' = w := by
  by_cases h4 : k = 4
  · subst h4
    go_enter Tryz.func59, Tryz.ntmps59
    go_wp2
    go_ret
    exact ⟨rfl, rfl⟩
  by_cases h5 : k = 5
  · subst h5
    go_enter Tryz.func59, Tryz.ntmps59
    go_wp2
    go_ret
    exact ⟨rfl, rfl⟩
  by_cases h6 : k = 6
  · subst h6
    go_enter Tryz.func59, Tryz.ntmps59
    go_wp2
    go_ret
    exact ⟨rfl, rfl⟩
  have HK : Hid (Ld.kindOf k = 2) := by show _ = _; simp [Ld.kindOf, h4, h5, h6]
  have e4 : (k == 4) = false := by simpa using h4
  have e5 : (k == 5) = false := by simpa using h5
  have e6 : (k == 6) = false := by simpa using h6
  clear h4 h5 h6
  go_enter Tryz.func59, Tryz.ntmps59
  go_wp2
  go_ret
  exact ⟨by rw [HK.out]; rfl, rfl⟩
theorem mayCount_any (k c : Int) (w : World) : Calls Tryz.prog 58 #[.int .i64 k, .int .i64 c] w fun e w' => e = .returned (.bool (Ld.mayCount k c)) ∧ w' = w := by
  cases hk : Ld.counted k with
  | true =>
    by_cases h1 : 1 ≤ c
    · by_cases h2 : c ≤ 7
      all_goals
        go_enter Tryz.func58, Tryz.ntmps58
        go_wp2_with (go_at_call 75; refine (isCounted_any _ _).mono ?_; rintro e w' ⟨rfl, rfl⟩; rw [hk])
        go_ret
        exact ⟨by simp [Ld.mayCount, *], rfl⟩
    · go_enter Tryz.func58, Tryz.ntmps58
      go_wp2_with (go_at_call 75; refine (isCounted_any _ _).mono ?_; rintro e w' ⟨rfl, rfl⟩; rw [hk])
      go_ret
      exact ⟨by simp [Ld.mayCount, *]; omega, rfl⟩
  | false =>
    by_cases h1 : c = 0
    all_goals
      go_enter Tryz.func58, Tryz.ntmps58
      go_wp2_with (go_at_call 75; refine (isCounted_any _ _).mono ?_; rintro e w' ⟨rfl, rfl⟩; rw [hk])
      go_ret
      exact ⟨by simp [Ld.mayCount, *], rfl⟩
/-- a predicate on names, as a function value: it says this of each, and changes nothing old -/
def NPred (w : World) (f : Value) (p : Ld.Nme → Bool) : Prop := ∃ K c, f = .func (.func K) #[] #[c] ∧ Entered K ∧ ∀ (n : Ld.Nme) (W : World), Below w.heap.size w W → n.name.length ≤ maxLen →
  Calls Tryz.prog K #[.agg #[.string ⟨n.name.toArray⟩, .int .i64 n.kind, .int .i64 n.count], c] W fun e W' => e = .returned (.bool (p n)) ∧ Below W.heap.size W W'
theorem NPred.below {w w' : World} {f : Value} {p : Ld.Nme → Bool} (h : NPred w f p) (hb : Below w.heap.size w w') : NPred w' f p := by
  obtain ⟨K, c, h1, h2, h3⟩ := h
  exact ⟨K, c, h1, h2, fun n W hW => h3 n W (hb.trans (hW.mono hb.size))⟩
set_option maxHeartbeats 1000000 in
set_option maxRecDepth 100000 in
theorem number1_any (b : Nat) (s : List UInt8) (n : Ld.Nme) (w : World) (hc : w.cell? ⟨b, 0, none⟩ = some (.string ⟨s.toArray⟩)) :
    Calls Tryz.prog 24 #[.agg #[.string ⟨n.name.toArray⟩, .int .i64 n.kind, .int .i64 n.count], .pointer (some ⟨b, 0, none⟩)] w fun e w' => e = .returned (.bool (n.name == s)) ∧ Below w.heap.size w w' := by
  obtain ⟨nm, k, c⟩ := n
  go_enter Tryz.func24, Tryz.ntmps24
  have hb1 := bytes_list nm
  have hb2 := bytes_list s
  have hlt : b < w.heap.size := World.block_lt_of_cell? _ _ hc
  go_wp2
  go_ret
  exact ⟨by rfl, (Below.refl _ _).alloc (Nat.le_refl _) _⟩
set_option maxHeartbeats 2000000 in
set_option maxRecDepth 100000 in
theorem indexFunc_any (sv f : Value) (ns : List Ld.Nme) (p : Ld.Nme → Bool) (w : World) (hn : NamesAt w sv ns) (hf : NPred w f p) :
    Calls Tryz.prog 23 #[sv, f] w fun e w' => e = .returned (.int .i64 (Ld.numOf (ns.findIdx? p))) ∧ Below w.heap.size w w' := by
  obtain ⟨K, c, rfl, hent, hp⟩ := hf
  have hent' : ∀ (args : Array Value) (w : World), (callFunc K args).run Tryz.prog w = .ok (.enter K args) w := hent
  have HP := hide hp
  clear hent hp
  rcases hn with ⟨rfl, a, cap, rfl⟩ | ⟨g, cap, rfl, hcap, hlen, hcell⟩
  · go_enter Tryz.func23, Tryz.ntmps23
    go_wp2_with fail
    go_loopw [8] (fun i wr => i = .int .i64 0 ∧ wr = w) (fun _ _ => 0)
    case atStart => exact ⟨rfl, rfl⟩
    case round =>
      obtain ⟨rfl, rfl⟩ := hrel
      go_wp2_with fail
      go_ret
      exact ⟨rfl, Below.refl _ _⟩
  · have HC := hide hcell
    generalize hnn : ns.length = n at *
    have HN := hide hnn
    clear hcell hnn
    go_enter Tryz.func23, Tryz.ntmps23
    go_wp2_with fail
    go_loopw [8] (fun i wr => ∃ k : Nat, k ≤ n ∧ i = .int .i64 (k : Int) ∧ Hid (∀ j x, j < k → ns[j]? = some x → p x = false) ∧ Hid (Below w.heap.size w wr)) (fun i _ => n - (intOf i).toNat)
    case atStart => exact ⟨0, Nat.zero_le _, rfl, fun j x hj => absurd hj (Nat.not_lt_zero j), Below.refl _ _⟩
    case round =>
      obtain ⟨k, hk, rfl, HNO, HB⟩ := hrel
      by_cases hlt : k < n
      · have hkl : k < ns.length := by rw [HN.out]; exact hlt
        obtain ⟨e1, e2, e3, e4, e5⟩ := HC.out k ns[k] (List.getElem?_eq_getElem hkl)
        have c1 := (HB.out.cell (World.block_lt_of_cell? _ _ e1)).trans e1
        have c2 := (HB.out.cell (World.block_lt_of_cell? _ _ e2)).trans e2
        have c3 := (HB.out.cell (World.block_lt_of_cell? _ _ e3)).trans e3
        have HCALL := hide (HP.out ns[k] wr HB.out e4)
        have HHIT : Hid (p ns[k] = true → ns.findIdx? p = some k) := fun hp => by
          rw [List.findIdx?_eq_some_iff_getElem]
          exact ⟨hkl, hp, fun j hj => by rw [HNO.out j ns[j] hj (List.getElem?_eq_getElem (by omega))]; decide⟩
        have HON : Hid (p ns[k] = false → ∀ j x, j < k + 1 → ns[j]? = some x → p x = false) := fun hp j x hj hx => by
          by_cases e : j = k
          · subst e; rw [List.getElem?_eq_getElem hkl] at hx; cases hx; exact hp
          · exact HNO.out j x (by omega) hx
        clear e1 e2 e3 e4 e5
        generalize ns[k] = y at *
        go_wp2_with fail
        refine HCALL.out.mono ?_
        rintro e w1 ⟨rfl, hb1⟩
        have HB1 := hide (HB.out.trans (hb1.mono HB.out.size))
        clear hb1 HCALL
        cases hpy : p y with
        | true =>
          have HF := hide (HHIT.out hpy)
          go_wp2_with fail
          go_ret
          exact ⟨by rw [HF.out]; rfl, HB1.out⟩
        | false =>
          have HF := hide (HON.out hpy)
          go_wp2_with fail
          go_roundw
          case rel => exact ⟨k + 1, by omega, by go_num, HF.out, HB1.out⟩
          case measure => simp [intOf]; omega
      · have hkn : k = n := by omega
        have HF : Hid (ns.findIdx? p = none) := by
          show _ = _
          rw [List.findIdx?_eq_none_iff]
          intro x hx
          obtain ⟨j, hj, rfl⟩ := List.getElem_of_mem hx
          exact HNO.out j _ (by rw [HN.out] at hj; omega) (List.getElem?_eq_getElem hj)
        subst hkn
        go_wp2_with fail
        go_ret
        exact ⟨by rw [HF.out]; rfl, HB.out⟩
set_option maxHeartbeats 2000000 in
set_option maxRecDepth 100000 in
theorem Number_any (ns : List Ld.Nme) (nv rv : Value) (s : List UInt8) (w : World) (hn : NamesAt w nv ns) (hr : ∃ a n c, rv = .slice a n c) :
    Calls Tryz.prog 10 #[.agg #[nv, rv], .string ⟨s.toArray⟩] w fun e w' => e = .returned (.int .i64 (Ld.number ns s)) ∧ Below w.heap.size w w' := by
  have hmf : ∀ (fn : Fn) (first cap : Array Value) (w : World), (Instr.makeFunc fn first cap).run Tryz.prog w = .ok (.func fn first cap) w := fun _ _ _ _ => rfl
  obtain ⟨ra, rn, rc, rfl⟩ := hr
  have HNA := hide hn
  obtain ⟨na, nc, rfl, _⟩ := hn.slice
  clear hn
  generalize ns.length = nn at *
  obtain ⟨w2, hw2⟩ : ∃ w2, w2 = (w.alloc (.cells #[.slice na nn nc, .slice ra rn rc] 29)).alloc (.cells #[.string ⟨s.toArray⟩] 9) := ⟨_, rfl⟩
  have hb2 : Below w.heap.size w w2 := by rw [hw2]; exact ((Below.refl _ _).alloc (Nat.le_refl _) _).alloc (by simp) _
  have hc2 : w2.cell? ⟨w.heap.size + 1, 0, none⟩ = some (.string ⟨s.toArray⟩) := by rw [hw2]; simp [go_sem]
  have hs2 : w2.heap.size = w.heap.size + 1 + 1 := by rw [hw2]; simp
  have HI := hide (indexFunc_any (.slice na nn nc) (.func (.func 24) #[] #[.pointer (some ⟨w.heap.size + 1, 0, none⟩)]) ns (fun n => n.name == s) w2 (HNA.out.below hb2)
    ⟨24, _, rfl, fun _ _ => by kernel_rfl, fun n W hW hn => number1_any _ s n W ((hW.cell (p := ⟨w.heap.size + 1, 0, none⟩) (by show w.heap.size + 1 < _; omega)).trans hc2)⟩)
  rw [hw2] at HI
  have HB2 := hide hb2
  rw [hw2] at HB2
  clear hb2 hc2 hs2 hw2
  go_enter Tryz.func10, Tryz.ntmps10
  go_wp2_with fail
  refine HI.out.mono ?_
  rintro e w3 ⟨rfl, hb3⟩
  have HB3 := hide (HB2.out.trans (hb3.mono HB2.out.size))
  clear hb3 HI
  go_wp2_with fail
  go_ret
  exact ⟨rfl, HB3.out⟩
end Go.Proofs.YtflonjbbolmelaaGreatDoor
