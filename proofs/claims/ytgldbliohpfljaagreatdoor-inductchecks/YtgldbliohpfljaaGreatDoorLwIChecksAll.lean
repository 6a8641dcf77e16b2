/-
  The walks of slices.Index and slices.Contains over bools, and of package induct's within. The walks of package induct's failsNow and failsLater. The walk of package induct's Check. The walk of package induct's Check where the number may not be. The walk of InductChecks: what is shown by k scans in a row, or shown not to be, is the document's.
-/
import Derived.Test.YtgldbliohpfljaaGreatDoorRfTellsAll
import Derived.Test.YtgldbliohpfljaaGreatDoorPcGoodAll
import Derived.Test.YtgldbliohpfljaaGreatDoorRcLeastAll
import Derived.Test.YtgldbliohpfljaaGreatDoorLwMachsAll
import Derived.Test.YtgldbliohpfljaaGreatDoorPcKnownAll
import Derived.Test.YtgldbliohpfljaaGreatDoorInRefAll
namespace Go.Proofs.YtgldbliohpfljaaGreatDoor
section
open Go.RowKit
set_option maxHeartbeats 2000000 in
set_option maxRecDepth 100000 in
theorem indexB_any (l : List Bool) (x : Bool) (g n cp : Nat) (w : World) (hn : l.length = n) (hn5 : n ≤ 100000) (h : BRow w g l []) :
    Calls Tryz.prog 101 #[.slice (some ⟨g, 0, none⟩) n cp, .bool x] w fun e w' => ∃ r : Int, e = .returned (.int .i64 r) ∧ (0 ≤ r ↔ l.contains x = true) ∧ -1 ≤ r ∧ w' = w := by
  have HR := hide h
  have HN := hide hn
  clear h hn
  go_enter Tryz.func101, Tryz.ntmps101
  go_wp2_with fail
  go_loopw [8] (fun i wr => ∃ k : Nat, k ≤ n ∧ i = .int .i64 (k : Int) ∧ Hid ((l.take k).contains x = false) ∧ Hid (wr = w)) (fun i _ => n - (intOf i).toNat)
  case atStart => exact ⟨0, Nat.zero_le _, rfl, (rfl : ([] : List Bool).contains x = false), (rfl : w = w)⟩
  case round =>
    obtain ⟨k, hk, rfl, HT, HW⟩ := hrel
    obtain rfl := HW.out
    by_cases hlt : k < n
    · have hkl : k < l.length := by rw [HN.out]; exact hlt
      have hx := List.getElem?_eq_getElem hkl
      have c0 := HR.out.cell k _ hx
      have HSU : Hid ((l.take (k + 1)).contains x = (x == l[k])) := by show _ = _; rw [List.take_succ_eq_append_getElem hkl, List.contains_eq_any_beq, List.any_append, ← List.contains_eq_any_beq, HT.out]; simp
      have HMM := hide (List.getElem_mem hkl)
      generalize l[k] = b at *
      clear hx
      cases hp : x == b with
      | true =>
        have e : x = b := by simpa using hp
        subst e
        have HA : Hid (x ∈ l) := HMM.out
        clear hp
        cases x
        all_goals
          go_wp2_with fail
          go_ret
          exact ⟨(k : Int), rfl, ⟨fun _ => HA.out, fun _ => by omega⟩, by omega, rfl⟩
      | false =>
        rw [hp] at HSU
        cases x <;> cases b
        all_goals first
          | (simp at hp; done)
          | (clear hp
             go_wp2_with fail
             go_roundw
             case rel => exact ⟨k + 1, by omega, by go_num, HSU.out, by first | exact trivial | exact (rfl : _ = _)⟩
             case measure => simp [intOf]; omega)
    · have hkn : k = n := by omega
      have HA : Hid (l.contains x = false) := by have := HT.out; rw [List.take_of_length_le (by rw [HN.out]; omega)] at this; exact this
      subst hkn
      go_wp2_with fail
      go_ret
      exact ⟨-1, rfl, ⟨fun h => by omega, fun h => absurd (List.contains_iff_mem.2 h) (by rw [HA.out]; exact Bool.false_ne_true)⟩, by omega, rfl⟩
set_option maxHeartbeats 2000000 in
set_option maxRecDepth 100000 in
theorem containsB_any (l : List Bool) (x : Bool) (g n cp : Nat) (w : World) (hn : l.length = n) (hn5 : n ≤ 100000) (h : BRow w g l []) :
    Calls Tryz.prog 56 #[.slice (some ⟨g, 0, none⟩) n cp, .bool x] w fun e w' => e = .returned (.bool (l.contains x)) ∧ w' = w := by
  have HI := hide (indexB_any l x g n cp w hn hn5 h)
  generalize l.contains x = y at *
  clear hn h
  go_enter Tryz.func56, Tryz.ntmps56
  go_wp2_with fail
  refine HI.out.mono ?_
  rintro e w1 ⟨r, rfl, hr, _, rfl⟩
  have HE : Hid (decide (0 ≤ r) = y) := by show _ = _; cases y <;> simp_all
  clear HI hr
  go_wp2_with fail
  go_ret
  exact ⟨by rw [← HE.out]; rfl, rfl⟩
set_option maxHeartbeats 2000000 in
set_option maxRecDepth 100000 in
theorem iwithin_any (l : List Bool) (g n cp x : Nat) (b : Bool) (w : World) (hn : l.length = n) (h : BRow w g l []) (hx : l[x]? = some b) :
    Calls Tryz.prog 100 #[.slice (some ⟨g, 0, none⟩) n cp, .int .i64 (x : Int)] w fun e w' => e = .returned (.bool b) ∧ w' = w := by
  have hlt : x < n := by rw [← hn]; exact (List.getElem?_eq_some_iff.1 hx).1
  have c0 := h.cell x b hx
  have hxi : (x : Int) < (n : Int) := by omega
  clear h hn hx
  cases b
  all_goals
    go_enter Tryz.func100, Tryz.ntmps100
    go_wp2_with fail
    go_ret
    exact ⟨rfl, rfl⟩
end
section
open Go.RowKit
theorem Rc.inTo_skip (l : List Bool) (k : Nat) (hx : l[k]? = some false) : Rc.inTo l k = Rc.inTo l (k + 1) := by
  have hk := (List.getElem?_eq_some_iff.1 hx).1
  rw [← Rc.inTo_set l k hk false hx]
  have h := Rc.inTo_at l k hk
  refine (List.ext_getElem? fun i => ?_)
  by_cases e : k = i
  · subst e
    rw [h, List.getElem?_set_self (by rw [Rc.inTo_len _ _ (by omega)]; exact hk)]
  · rw [List.getElem?_set_ne e]
/-- what a list of states comes to: a row of its own -/
def Failed (w : World) (S : Nat) (l : List Bool) (e : Ending) (w' : World) : Prop := ∃ f, e = .returned (.slice (some ⟨f, 0, none⟩) S S) ∧ BRow w' f l [] ∧ w.heap.size ≤ f ∧ Below w.heap.size w w'
set_option maxHeartbeats 4000000 in
set_option maxRecDepth 100000 in
theorem failsNow_any (w0 : World) (g S I : Nat) (us : List Nat) (next : Nat → List Nat) (row : Nat → List Bool) (w : World) (h : GT w0 g S I us row w) (hus : us.length = S) (hS : S ≤ 4096) (hI : I ≤ 64) :
    Calls Tryz.prog 54 #[.slice (some ⟨g, 0, none⟩) S S] w (Failed w S (In.failsL next row S 0)) := by
  have HG := hide h
  have HU := hide hus
  have mk := fun w => makeBs S (by omega) w
  obtain ⟨cS, hcS⟩ : ∃ c, c = List.replicate S (Value.bool false) := ⟨_, rfl⟩
  rw [← hcS] at mk
  obtain ⟨L, hL⟩ : ∃ L, L = In.failsL next row S 0 := ⟨_, rfl⟩
  have HLL : Hid (L.length = S) := by show _ = _; rw [hL]; exact In.failsL_len ..
  have HLA : Hid (∀ s, s < S → L[s]? = some ((row s).contains false)) := fun s hs => by rw [hL]; exact In.failsL_at next row S 0 s hs
  obtain ⟨w1, hw1⟩ : ∃ w1, w1 = w.alloc (.cells ⟨cS⟩ 4) := ⟨_, rfl⟩
  have HR1 : Hid (BRow w1 w.heap.size (Rc.inTo L 0) []) := by
    unfold BRow
    rw [Rc.inTo_zero, HLL.out, List.append_nil, List.map_replicate, hw1, hcS]; exact RowIs.new _ _ _
  have HB1 : Hid (Below w.heap.size w w1) := by rw [hw1]; exact (Below.refl _ _).alloc (Nat.le_refl _) _
  have HFD : Hid (∀ f W, BRow W f L [] → w.heap.size ≤ f → Below w.heap.size w W → Failed w S (In.failsL next row S 0) (.returned (.slice (some ⟨f, 0, none⟩) S S)) W) := fun f W h1 h2 h3 => ⟨f, rfl, hL ▸ h1, h2, h3⟩
  have hgl := h.top.lt
  clear h hus hcS hL
  go_enter Tryz.func54, Tryz.ntmps54
  go_wp2_with fail
  rw [← hw1]
  clear hw1
  go_loopw [11] (fun i wr => ∃ k : Nat, k ≤ S ∧ i = .int .i64 (k : Int) ∧ Hid (BRow wr w.heap.size (Rc.inTo L k) []) ∧ Hid (Below w.heap.size w wr)) (fun i _ => S - (intOf i).toNat)
  case atStart => exact ⟨0, Nat.zero_le _, rfl, HR1.out, HB1.out⟩
  case round =>
    clear HR1 HB1
    obtain ⟨k, hk, rfl, HR, HB⟩ := hrel
    by_cases hlt : k < S
    · obtain ⟨b, hb⟩ : ∃ b, us[k]? = some b := ⟨_, List.getElem?_eq_getElem (by rw [HU.out]; exact hlt)⟩
      have hgt := HG.out.below HB.out
      have r0 := hgt.top.cell k (.slice (some ⟨b, 0, none⟩) I I) (by rw [List.getElem?_append_left (by simp; rw [HU.out]; exact hlt), List.getElem?_map, hb]; rfl)
      have HC := hide (containsB_any (row k) false b I I wr (hgt.len k (by rw [HU.out]; exact hlt)) (by omega) (hgt.rows k b hb).1)
      have c0 := HR.out.cell k _ (Rc.inTo_at _ _ (by rw [HLL.out]; exact hlt))
      have f0 := RowIs.frozen HR.out k
      have hki : (k : Int) < (S : Int) := by omega
      have HRN : Hid (BRow (wr.setCell ⟨w.heap.size, k, none⟩ (.bool ((row k).contains false))) w.heap.size (Rc.inTo L (k + 1)) []) := by
        have h1 := HR.out.set k ((row k).contains false) (by rw [Rc.inTo_len _ _ (by rw [HLL.out]; omega), HLL.out]; exact hlt)
        rw [Rc.inTo_set L k (by rw [HLL.out]; exact hlt) _ (HLA.out k hlt)] at h1
        exact h1
      have HBN : Hid (Below w.heap.size w (wr.setCell ⟨w.heap.size, k, none⟩ (.bool ((row k).contains false)))) := HB.out.setCell (p := ⟨w.heap.size, k, none⟩) (Nat.le_refl _) _
      have hwl : w.heap.size < wr.heap.size := World.block_lt_of_cell? _ _ c0
      have hgw : g ≠ w.heap.size := by omega
      generalize (row k).contains false = y at *
      clear hgt hb
      go_wp2_with fail
      refine HC.out.mono ?_
      rintro e w2 ⟨rfl, rfl⟩
      clear HC
      go_wp2_with fail
      go_roundw
      case rel => exact ⟨k + 1, by omega, by go_num, HRN.out, HBN.out⟩
      case measure => simp [intOf]; omega
    · have hkn : k = S := by omega
      have HE : Hid (BRow wr w.heap.size L []) := by
        have h1 := HR.out
        rw [hkn, ← HLL.out, Rc.inTo_all] at h1
        exact h1
      have HF := hide (HFD.out _ wr HE.out (Nat.le_refl _) HB.out)
      subst hkn
      go_wp2_with fail
      go_ret
      exact HF.out
/-- nothing is found among the first -/
theorem In.later_skip (next : Nat → List Nat) (row : Nat → List Bool) (k s j : Nat) (h : ((List.range j).any fun i => (row s).getD i false && In.fails next row k ((next s).getD i 0)) = false) (x : Bool) (hx : ((row s).getD j false && In.fails next row k ((next s).getD j 0)) = x) : ((List.range (j + 1)).any fun i => (row s).getD i false && In.fails next row k ((next s).getD i 0)) = x := by
  rw [List.range_succ, List.any_append, h]
  simpa using hx
theorem In.later_found (next : Nat → List Nat) (row : Nat → List Bool) (k s j : Nat) (hj : j < (row s).length) (hx : ((row s).getD j false && In.fails next row k ((next s).getD j 0)) = true) : In.fails next row (k + 1) s = true := by
  unfold In.fails
  rw [List.any_eq_true]
  exact ⟨j, List.mem_range.2 hj, hx⟩
set_option maxHeartbeats 8000000 in
set_option maxRecDepth 100000 in
theorem failsLater_any (w0 : World) (bm g S I gN f K : Nat) (us uN : List Nat) (next : Nat → List Nat) (row : Nat → List Bool) (w : World) (h : GT w0 g S I us row w) (hus : us.length = S) (hS : S ≤ 4096) (hI : I ≤ 64) (hna : NextAt w bm S I next gN uN) (hnl : ∀ s, (next s).length = I) (hnx : ∀ s t, s < S → t ∈ next s → t < S) (hf : BRow w f (In.failsL next row S K) []) :
    Calls Tryz.prog 55 #[.slice (some ⟨gN, 0, none⟩) S S, .slice (some ⟨g, 0, none⟩) S S, .slice (some ⟨f, 0, none⟩) S S] w (Failed w S (In.failsL next row S (K + 1))) := by
  have HG := hide h
  have HU := hide hus
  have HNA := hide hna
  have HNL := hide hnl
  have HNX := hide hnx
  have HF := hide hf
  have mk := fun w => makeBs S (by omega) w
  obtain ⟨cS, hcS⟩ : ∃ c, c = List.replicate S (Value.bool false) := ⟨_, rfl⟩
  rw [← hcS] at mk
  obtain ⟨L, hL⟩ : ∃ L, L = In.failsL next row S (K + 1) := ⟨_, rfl⟩
  have HLL : Hid (L.length = S) := by show _ = _; rw [hL]; exact In.failsL_len ..
  have HLA : Hid (∀ s, s < S → L[s]? = some (In.fails next row (K + 1) s)) := fun s hs => by rw [hL]; exact In.failsL_at next row S (K + 1) s hs
  obtain ⟨w1, hw1⟩ : ∃ w1, w1 = w.alloc (.cells ⟨cS⟩ 4) := ⟨_, rfl⟩
  have HR1 : Hid (BRow w1 w.heap.size (Rc.inTo L 0) []) := by
    unfold BRow
    rw [Rc.inTo_zero, HLL.out, List.append_nil, List.map_replicate, hw1, hcS]; exact RowIs.new _ _ _
  have HB1 : Hid (Below w.heap.size w w1) := by rw [hw1]; exact (Below.refl _ _).alloc (Nat.le_refl _) _
  have HFD : Hid (∀ f W, BRow W f L [] → w.heap.size ≤ f → Below w.heap.size w W → Failed w S (In.failsL next row S (K + 1)) (.returned (.slice (some ⟨f, 0, none⟩) S S)) W) := fun f W h1 h2 h3 => ⟨f, rfl, hL ▸ h1, h2, h3⟩
  have hgl := h.top.lt
  clear h hus hcS hL hna hnl hnx hf
  go_enter Tryz.func55, Tryz.ntmps55
  go_wp2_with fail
  rw [← hw1]
  clear hw1
  go_loopw [17] (fun i wr => ∃ k : Nat, k ≤ S ∧ i = .int .i64 (k : Int) ∧ Hid (BRow wr w.heap.size (Rc.inTo L k) []) ∧ Hid (Below w.heap.size w wr)) (fun i _ => S - (intOf i).toNat)
  case atStart => exact ⟨0, Nat.zero_le _, rfl, HR1.out, HB1.out⟩
  case round =>
    clear HR1 HB1
    obtain ⟨s, hs, rfl, HR, HB⟩ := hrel
    by_cases hlt : s < S
    · obtain ⟨b, hb⟩ : ∃ b, us[s]? = some b := ⟨_, List.getElem?_eq_getElem (by rw [HU.out]; exact hlt)⟩
      obtain ⟨bN, hbN⟩ : ∃ b, uN[s]? = some b := ⟨_, List.getElem?_eq_getElem (by rw [HNA.out.2.1]; exact hlt)⟩
      have hgt := HG.out.below HB.out
      have r0 := hgt.top.cell s (.slice (some ⟨b, 0, none⟩) I I) (by rw [List.getElem?_append_left (by simp; rw [HU.out]; exact hlt), List.getElem?_map, hb]; rfl)
      have HRB := hide (hgt.rows s b hb).1
      have HRL := hide (hgt.len s (by rw [HU.out]; exact hlt))
      have HN2 := hide ((HNA.out.below HB.out).2.2 s bN hbN)
      have HF2 := hide (HF.out.below HB.out)
      have hki : (s : Int) < (S : Int) := by omega
      obtain ⟨wo, rfl⟩ : ∃ wo, wo = wr := ⟨_, rfl⟩
      clear hgt hb hbN
      go_wp2_with fail
      go_loopw [24] (fun i wx => ∃ j : Nat, j ≤ I ∧ i = .int .i64 (j : Int) ∧ Hid (((List.range j).any fun i => (row s).getD i false && In.fails next row K ((next s).getD i 0)) = false) ∧ Hid (wx = wo)) (fun i _ => I - (intOf i).toNat)
      case atStart => exact ⟨0, Nat.zero_le _, rfl, (rfl : _ = _), (rfl : _ = _)⟩
      case round =>
        obtain ⟨j, hj, rfl, HT, HWX⟩ := hrel
        obtain rfl := HWX.out
        clear HWX
        by_cases hjl : j < I
        · have hrj : (row s)[j]? = some ((row s).getD j false) := by rw [List.getD_eq_getElem?_getD, List.getElem?_eq_getElem (by rw [HRL.out]; exact hjl)]; rfl
          have c1 := HRB.out.cell j _ hrj
          have hnj : (next s)[j]? = some ((next s).getD j 0) := by rw [List.getD_eq_getElem?_getD, List.getElem?_eq_getElem (by rw [HNL.out]; exact hjl)]; rfl
          have n0 := HN2.out.1
          have n1 := HN2.out.2 j _ hnj
          have hto : (next s).getD j 0 < S := HNX.out s _ hlt (List.mem_of_getElem? hnj)
          have HWI := hide (iwithin_any _ f S S _ _ wr (In.failsL_len next row S K) HF2.out (In.failsL_at next row S K _ hto))
          have HSK := hide (In.later_skip next row K s j HT.out)
          have HFO := hide (In.later_found next row K s j (by rw [HRL.out]; exact hjl))
          have hji : (j : Int) < (I : Int) := by omega
          generalize (row s).getD j false = rb at *
          generalize (next s).getD j 0 = too at *
          generalize In.fails next row K too = fb at *
          clear hrj hnj
          cases rb with
          | false =>
            have HNT := hide (HSK.out false rfl)
            clear HSK HFO HWI
            go_wp2_with fail
            go_roundw
            case rel => exact ⟨j + 1, by omega, by go_num, HNT.out, by first | exact trivial | exact (rfl : _ = _)⟩
            case measure => simp [intOf]; omega
          | true =>
            go_wp2_with fail
            refine HWI.out.mono ?_
            rintro e w2 ⟨rfl, rfl⟩
            clear HWI
            cases fb with
            | false =>
              have HNT := hide (HSK.out false rfl)
              clear HSK HFO
              go_wp2_with fail
              go_roundw
              case rel => exact ⟨j + 1, by omega, by go_num, HNT.out, by first | exact trivial | exact (rfl : _ = _)⟩
              case measure => simp [intOf]; omega
            | true =>
              have hft := HFO.out rfl
              have hl := HLA.out s hlt
              rw [hft] at hl
              have c0 := HR.out.cell s _ (Rc.inTo_at _ _ (by rw [HLL.out]; exact hlt))
              have f0 := RowIs.frozen HR.out s
              have HRN : Hid (BRow (w2.setCell ⟨w.heap.size, s, none⟩ (.bool true)) w.heap.size (Rc.inTo L (s + 1)) []) := by
                have h1 := HR.out.set s true (by rw [Rc.inTo_len _ _ (by rw [HLL.out]; omega), HLL.out]; exact hlt)
                rw [Rc.inTo_set L s (by rw [HLL.out]; exact hlt) _ hl] at h1
                exact h1
              have HBN : Hid (Below w.heap.size w (w2.setCell ⟨w.heap.size, s, none⟩ (.bool true))) := HB.out.setCell (p := ⟨w.heap.size, s, none⟩) (Nat.le_refl _) _
              clear HSK HFO hft hl
              go_wp2_with fail
              exact ⟨⟨s + 1, by omega, by go_num, HRN.out, HBN.out⟩, by simp [intOf]; omega⟩
        · have hjn : j = I := by omega
          have HRN : Hid (BRow wr w.heap.size (Rc.inTo L (s + 1)) []) := by
            have h1 : In.fails next row (K + 1) s = false := by
              have h2 := HT.out
              rw [hjn, ← HRL.out] at h2
              exact h2
            have hl := HLA.out s hlt
            rw [h1] at hl
            have h3 := HR.out
            rw [Rc.inTo_skip L s hl] at h3
            exact h3
          subst hjn
          go_wp2_with fail
          exact ⟨⟨s + 1, by omega, by go_num, HRN.out, HB.out⟩, by simp [intOf]; omega⟩
    · have hkn : s = S := by omega
      have HE : Hid (BRow wr w.heap.size L []) := by
        have h1 := HR.out
        rw [hkn, ← HLL.out, Rc.inTo_all] at h1
        exact h1
      have HFI := hide (HFD.out _ wr HE.out (Nat.le_refl _) HB.out)
      subst hkn
      go_wp2_with fail
      go_ret
      exact HFI.out
end
section
open Go.RowKit
/-- a verdict -/
def vdV (c k : Nat) (pv : Value) : Value := .agg #[.int .i64 (c : Int), .int .i64 (k : Int), pv]
/-- what Check comes to, where there is no error -/
def Indd (w : World) (next : Nat → List Nat) (wt : Nat × Nat → Nat → Nat) (any : Nat → Bool) (most : Nat) (e : Ending) (w' : World) : Prop :=
  (∃ c k, Pr.Held next wt 0 ∧ In.run false 0 any most 1 = (c, k) ∧ e = .returned (.tuple #[vdV c k (.slice none 0 0), .nilIface])) ∨
  ∃ l g cp cd k pv, Pr.Broke next wt 0 l ∧ Pr.Least next wt 0 l ∧ w'.ownsRow w.heap.size 3 1 (.slice (some ⟨g, 0, none⟩) l.length cp) l.length (l.map natV) ∧ l.length ≤ 100001 ∧ In.run true l.length any most 1 = (cd, k) ∧ e = .returned (.tuple #[vdV cd k pv, .nilIface]) ∧ ((cd = 2 ∧ pv = .slice (some ⟨g, 0, none⟩) l.length cp) ∨ (cd ≠ 2 ∧ pv = .slice none 0 0))
/-- does it fail anywhere, behind k good scans -/
def Pr.anyP (p : Ld.Prg) (x : Ex) (k : Nat) : Bool := In.anyF (Mc.nexts p) (Pr.goodRow p x (2 ^ (Ld.kindL p.names 1).length)) (Mc.total (Mc.parts p)) k
/-- what Check comes to -/
def IChecked (w : World) (p : Ld.Prg) (x : Ex) (most : Nat) (e : Ending) (w' : World) : Prop := Below w.heap.size w w' ∧ (if Pr.has p.names x then Indd w (Mc.nexts p) (Pr.wtC (Pr.goodRow p x (2 ^ (Ld.kindL p.names 1).length))) (Pr.anyP p x) most e w' else e = .returned (.tuple #[vdV 0 0 (.slice none 0 0), .iface 40 (.int .i64 7)]))
/-- a verdict's three cells, written anew -/
theorem set3_heap (W : World) (b : Nat) (x y z : Value) (k : Nat) (hk : k ≠ b) : (((W.setCell ⟨b, 0, none⟩ x).setCell ⟨b, 1, none⟩ y).setCell ⟨b, 2, none⟩ z).heap[k]? = W.heap[k]? := by
  rw [Below.heap_setCell _ _ _ _ (fun e => hk e), Below.heap_setCell _ _ _ _ (fun e => hk e), Below.heap_setCell _ _ _ _ (fun e => hk e)]
theorem set3_below {w W : World} {b : Nat} (x y z : Value) (h : Below w.heap.size w W) (hb : w.heap.size ≤ b) : Below w.heap.size w (((W.setCell ⟨b, 0, none⟩ x).setCell ⟨b, 1, none⟩ y).setCell ⟨b, 2, none⟩ z) :=
  ((h.setCell (p := ⟨b, 0, none⟩) hb _).setCell (p := ⟨b, 1, none⟩) hb _).setCell (p := ⟨b, 2, none⟩) hb _
set_option maxHeartbeats 8000000 in
set_option maxRecDepth 100000 in
theorem ICheck_any (ok : Nat → Prop) (bm : Nat) (p : Ld.Prg) (x : Ex) (v : Value) (most : Nat) (w : World) (hm : IsMach w bm p) (hck : Ld.check p = none) (hS : Mc.total (Mc.parts p) ≤ 4096) (hq : (Ld.kindL p.names 1).length ≤ 6) (h : IsEx ok w x v) (hlen : x.size ≤ 1000000) (hm1 : 1 ≤ most) (hm2 : most ≤ 50) :
    Calls Tryz.prog 20 #[.pointer (some ⟨bm, 0, none⟩), v, .int .i64 (most : Int)] w (IChecked w p x most) := by
  obtain ⟨wA, hwA⟩ : ∃ wA, wA = w.alloc (.cells #[.int .i64 0, .int .i64 0, .slice none 0 0] 59) := ⟨_, rfl⟩
  have hbA : Below w.heap.size w wA := by rw [hwA]; exact (Below.refl _ _).alloc (Nat.le_refl _) _
  have hzA : wA.heap.size = w.heap.size + 1 := by rw [hwA]; simp
  have hkA : wA.heap[w.heap.size]? = some (.cells #[.int .i64 0, .int .i64 0, .slice none 0 0] 59 (0, 0)) := by rw [hwA]; exact heap_alloc_new w _
  have HXA := hide (IsEx.stay (Stay.below hbA) (fun g _ => trivial) x v h (ok' := fun _ => True))
  have HMA := hide (hm.below hbA)
  have HG := hide (Good_any (fun _ => True) bm p x v wA HMA.out hck hS hq HXA.out hlen)
  obtain ⟨gN, uN, hna⟩ := HMA.out.next
  have HNA := hide hna
  have hS1 := Mc.total_pos (Mc.parts p) (Mc.parts_ok p)
  have hI6 : 2 ^ (Ld.kindL p.names 1).length ≤ 64 := Nat.pow_le_pow_right (n := 2) (by decide) hq
  have HNL := hide (fun s => Mc.nexts_len p s)
  have HNX : Hid (∀ f s, f < Mc.total (Mc.parts p) → s ∈ Mc.nexts p f → s < Mc.total (Mc.parts p)) := fun f s _ hs => Mc.nexts_lt p hck f s hs
  have HPC : Hid (∀ W, Below wA.heap.size wA W → Calls Tryz.prog 11 #[.pointer (some ⟨bm, 0, none⟩), v] W (PChecked W p x)) := fun W hW => PCheck_any (fun _ => True) bm p x v W (HMA.out.below hW) hck hS hq (IsEx.stay (Stay.below hW) (fun g _ => trivial) x v HXA.out) hlen
  have HIC : Hid (∀ e w', IChecked w p x most e w' ↔ (Below w.heap.size w w' ∧ (if Pr.has p.names x then Indd w (Mc.nexts p) (Pr.wtC (Pr.goodRow p x (2 ^ (Ld.kindL p.names 1).length))) (In.anyF (Mc.nexts p) (Pr.goodRow p x (2 ^ (Ld.kindL p.names 1).length)) (Mc.total (Mc.parts p))) most e w' else e = .returned (.tuple #[vdV 0 0 (.slice none 0 0), .iface 40 (.int .i64 7)])))) := fun _ _ => Iff.rfl
  have HGD : Hid (∀ e w', Gooded wA p x e w' → (Below wA.heap.size wA w' ∧ (if Pr.has p.names x then ∃ g us, e = .returned (.tuple #[.slice (some ⟨g, 0, none⟩) (Mc.total (Mc.parts p)) (Mc.total (Mc.parts p)), .nilIface]) ∧ us.length = Mc.total (Mc.parts p) ∧ GT wA g (Mc.total (Mc.parts p)) (2 ^ (Ld.kindL p.names 1).length) us (Pr.goodRow p x (2 ^ (Ld.kindL p.names 1).length)) w' else e = .returned (.tuple #[.slice none 0 0, .iface 40 (.int .i64 7)])))) := fun _ _ h => h
  have HPD : Hid (∀ W e w', PChecked W p x e w' → (Below W.heap.size W w' ∧ (if Pr.has p.names x then SaidT W (Mc.nexts p) (Pr.wtC (Pr.goodRow p x (2 ^ (Ld.kindL p.names 1).length))) 0 e w' else e = .returned (.tuple #[.bool false, .slice none 0 0, .iface 40 (.int .i64 7)])))) := fun _ _ _ h => h
  obtain ⟨tu, yu, rfl⟩ := IsEx.iface x v h
  have HKA := hide hkA
  have HBA := hide hbA
  clear hna h hm hq hck hkA hbA HMA HXA
  generalize hrw : Pr.goodRow p x (2 ^ (Ld.kindL p.names 1).length) = row at *
  generalize Mc.total (Mc.parts p) = S at *
  generalize 2 ^ (Ld.kindL p.names 1).length = I at *
  generalize Mc.nexts p = next at *
  clear hrw
  have HWA := hide hwA
  rw [hwA] at HG
  clear hwA
  go_enter Tryz.func20, Tryz.ntmps20
  go_wp2_with fail
  refine HG.out.mono ?_
  rw [← HWA.out]
  intro e w1 hg
  obtain ⟨hb1, hres⟩ := HGD.out e w1 hg
  clear hg HG HGD
  have hz1 := hb1.size
  cases hhas : Pr.has p.names x with
  | false =>
    rw [hhas, if_neg Bool.false_ne_true] at hres
    obtain rfl := hres
    have ub := (hb1.block w.heap.size (by omega)).trans HKA.out
    have z0 : w1.cell? ⟨w.heap.size, 0, none⟩ = some (.int .i64 0) := by rw [Lib.cell_of_heap ub]; rfl
    have z1 : w1.cell? ⟨w.heap.size, 1, none⟩ = some (.int .i64 0) := by rw [Lib.cell_of_heap ub]; rfl
    have z2 : w1.cell? ⟨w.heap.size, 2, none⟩ = some (.slice none 0 0) := by rw [Lib.cell_of_heap ub]; rfl
    have f0 : w1.frozen? ⟨w.heap.size, 0, none⟩ = false := Lib.frozen_of_heap ub 0
    have f1 : w1.frozen? ⟨w.heap.size, 1, none⟩ = false := Lib.frozen_of_heap ub 1
    have f2 : w1.frozen? ⟨w.heap.size, 2, none⟩ = false := Lib.frozen_of_heap ub 2
    have hb2 : Below w.heap.size w w1 := HBA.out.trans (hb1.mono (by omega))
    have HFN : Hid (∀ x_ y_ z_, IChecked w p x most (.returned (.tuple #[vdV 0 0 (.slice none 0 0), .iface 40 (.int .i64 7)])) (((w1.setCell ⟨w.heap.size, 0, none⟩ x_).setCell ⟨w.heap.size, 1, none⟩ y_).setCell ⟨w.heap.size, 2, none⟩ z_)) := fun x_ y_ z_ => by
      refine (HIC.out _ _).2 ⟨set3_below _ _ _ hb2 (Nat.le_refl _), ?_⟩
      rw [hhas, if_neg Bool.false_ne_true]
    clear hb1 hb2 ub
    go_wp2_with fail
    refine bodyPost_ret_by (v := .tuple #[vdV 0 0 (.slice none 0 0), .iface 40 (.int .i64 7)]) ?_ rfl ?_
    · simp [results, Tryz.results20, go_sem, vdV, z0, z1, z2]
    · exact HFN.out _ _ _
  | true =>
    rw [hhas, if_pos rfl] at hres
    obtain ⟨g, us, rfl, hul, hgt⟩ := hres
    have HC1 := hide (HPC.out w1 hb1)
    have HGT := hide hgt
    have hmi1 : ¬ (most : Int) < 1 := by omega
    have hmi2 : ¬ (50 : Int) < (most : Int) := by omega
    have HB1 := hide hb1
    clear hgt HPC hb1
    go_wp2_with fail
    refine HC1.out.mono ?_
    intro e w2 hp
    obtain ⟨hb2, hres⟩ := HPD.out w1 e w2 hp
    rw [hhas, if_pos rfl] at hres
    have hz2 := hb2.size
    have hkb : w2.heap[w.heap.size]? = some (.cells #[.int .i64 0, .int .i64 0, .slice none 0 0] 59 (0, 0)) := (hb2.block _ (by omega)).trans ((HB1.out.block _ (by omega)).trans HKA.out)
    have hbw2 : Below w.heap.size w w2 := HBA.out.trans ((HB1.out.trans (hb2.mono (by omega))).mono (by omega))
    obtain ⟨hd, a, L, c, rfl, hL5, HFN⟩ : ∃ (hd : Bool) (a : Option Addr) (L c : Nat), e = .returned (.tuple #[.bool hd, .slice a L c, .nilIface]) ∧ L ≤ 100001 ∧ Hid (∀ (cd k : Nat) (pv : Value) (W : World) (x_ y_ z_ : Value), In.run (!hd) L (In.anyF next row S) most 1 = (cd, k) → ((cd = 2 ∧ pv = .slice a L c) ∨ (cd ≠ 2 ∧ pv = .slice none 0 0)) → Below w2.heap.size w2 W → IChecked w p x most (.returned (.tuple #[vdV cd k pv, .nilIface])) (((W.setCell ⟨w.heap.size, 0, none⟩ x_).setCell ⟨w.heap.size, 1, none⟩ y_).setCell ⟨w.heap.size, 2, none⟩ z_)) := by
      have key : ∀ W x_ y_ z_, Below w2.heap.size w2 W → Below w.heap.size w (((W.setCell ⟨w.heap.size, 0, none⟩ x_).setCell ⟨w.heap.size, 1, none⟩ y_).setCell ⟨w.heap.size, 2, none⟩ z_) := fun W x_ y_ z_ hW => set3_below _ _ _ (hbw2.trans (hW.mono hbw2.size)) (Nat.le_refl _)
      rcases hres with ⟨rfl, hh⟩ | ⟨l, gp, cp, rfl, hbr, hle, hown, hl5⟩
      · refine ⟨true, none, 0, 0, rfl, by omega, fun cd k pv W x_ y_ z_ hr hv hW => (HIC.out _ _).2 ⟨key W x_ y_ z_ hW, ?_⟩⟩
        rw [hhas, if_pos rfl]
        refine .inl ⟨cd, k, hh, hr, ?_⟩
        rcases hv with ⟨rfl, rfl⟩ | ⟨_, rfl⟩
        · rfl
        · rfl
      · refine ⟨false, some ⟨gp, 0, none⟩, l.length, cp, rfl, hl5, fun cd k pv W x_ y_ z_ hr hv hW => (HIC.out _ _).2 ⟨key W x_ y_ z_ hW, ?_⟩⟩
        rw [hhas, if_pos rfl]
        refine .inr ⟨l, gp, cp, cd, k, pv, hbr, hle, ?_, hl5, hr, rfl, hv⟩
        refine own_mono (own_moved (own_below hown hW) fun j hj _ => set3_heap W w.heap.size x_ y_ z_ j (by omega)) (by omega)
    have HG2 := hide (HGT.out.below hb2)
    have HN2 := hide ((HNA.out.below HB1.out).below hb2)
    have HKB := hide hkb
    have HUL := hide hul
    have hbm : bm < w2.heap.size := World.block_lt_of_cell? _ _ HN2.out.1
    have HNOW := hide (failsNow_any wA g S I us next row w2 HG2.out hul hS (by omega))
    clear hp hres hkb hbw2 hb2 HC1 HPD HGT HB1 HBA HNA hul hhas HIC
    go_wp2_with fail
    refine HNOW.out.mono ?_
    rintro e w3 ⟨f3, rfl, hr3, hf3, hb3⟩
    have HR3 := hide hr3
    have HB3 := hide hb3
    clear hr3 hb3 HNOW
    go_wp2_with fail
    go_loopw [12, 13] (fun fv kv wr => ∃ (j f : Nat), 1 ≤ j ∧ j ≤ most + 1 ∧ kv = .int .i64 (j : Int) ∧ fv = .slice (some ⟨f, 0, none⟩) S S ∧ Hid (BRow wr f (In.failsL next row S (j - 1)) []) ∧ Hid (Below w2.heap.size w2 wr) ∧ Hid (In.run (!hd) L (In.anyF next row S) (most + 1 - j) j = In.run (!hd) L (In.anyF next row S) most 1)) (fun _ kv _ => most + 1 - (intOf kv).toNat)
    case atStart => exact ⟨1, f3, Nat.le_refl _, by omega, rfl, rfl, HR3.out, HB3.out, (rfl : _ = _)⟩
    case round =>
      clear HR3 HB3
      obtain ⟨j, f, hj1, hj2, rfl, rfl, HR, HB, HRU⟩ := hrel
      have ub := (HB.out.block w.heap.size (by omega)).trans HKB.out
      have z0 : wr.cell? ⟨w.heap.size, 0, none⟩ = some (.int .i64 0) := by rw [Lib.cell_of_heap ub]; rfl
      have z1 : wr.cell? ⟨w.heap.size, 1, none⟩ = some (.int .i64 0) := by rw [Lib.cell_of_heap ub]; rfl
      have z2 : wr.cell? ⟨w.heap.size, 2, none⟩ = some (.slice none 0 0) := by rw [Lib.cell_of_heap ub]; rfl
      have f0 : wr.frozen? ⟨w.heap.size, 0, none⟩ = false := Lib.frozen_of_heap ub 0
      have f1 : wr.frozen? ⟨w.heap.size, 1, none⟩ = false := Lib.frozen_of_heap ub 1
      have f2 : wr.frozen? ⟨w.heap.size, 2, none⟩ = false := Lib.frozen_of_heap ub 2
      have UB := hide ub
      clear ub
      by_cases hle : j ≤ most
      · have hji : (j : Int) ≤ (most : Int) := by omega
        have HLT : Hid (∀ (hno : hd = false → ¬ L ≤ j), Calls Tryz.prog 55 #[.slice (some ⟨gN, 0, none⟩) S S, .slice (some ⟨g, 0, none⟩) S S, .slice (some ⟨f, 0, none⟩) S S] wr (Failed wr S (In.failsL next row S j))) := fun _ => by
          have h1 := failsLater_any wA bm g S I gN f (j - 1) us uN next row wr (HG2.out.below HB.out) HUL.out hS (by omega) (HN2.out.below HB.out) HNL.out HNX.out HR.out
          rw [show j - 1 + 1 = j by omega] at h1
          exact h1
        have m4 := (HN2.out.below HB.out).1
        cases hd with
        | false =>
          by_cases hLj : L ≤ j
          · have hLi : (L : Int) ≤ (j : Int) := by omega
            have HFI := hide (HFN.out 2 j (.slice a L c) wr (.int .i64 2) (.int .i64 (j : Int)) (.slice a L c) (by rw [← HRU.out]; exact In.run_ref _ _ _ _ (by omega) hLj) (.inl ⟨rfl, rfl⟩) HB.out)
            clear HLT
            go_wp2_with fail
            refine bodyPost_ret_by (v := .tuple #[vdV 2 j (.slice a L c), .nilIface]) ?_ rfl ?_
            · simp [results, Tryz.results20, go_sem, vdV, z0, z1, z2]
            · exact HFI.out
          · have hLi : ¬ (L : Int) ≤ (j : Int) := by omega
            have HLA := hide (HLT.out (fun _ => hLj))
            have HNO : Hid (¬ L ≤ j) := hLj
            clear HLT
            clear hLj
            go_wp2_with fail
            refine HLA.out.mono ?_
            rintro e w4 ⟨f4, rfl, hr4, hf4, hb4⟩
            have HR4 := hide hr4
            have HB4 := hide (HB.out.trans (hb4.mono HB.out.size))
            have HCO := hide (containsB_any _ true f4 S S w4 (In.failsL_len next row S j) (by omega) hr4)
            have HAF : Hid (In.anyF next row S j = (In.failsL next row S j).contains true) := by show _ = _; rfl
            have ub := (hb4.block w.heap.size (by have := HB.out.size; omega)).trans UB.out
            have y0 : w4.cell? ⟨w.heap.size, 0, none⟩ = some (.int .i64 0) := by rw [Lib.cell_of_heap ub]; rfl
            have y1 : w4.cell? ⟨w.heap.size, 1, none⟩ = some (.int .i64 0) := by rw [Lib.cell_of_heap ub]; rfl
            have y2 : w4.cell? ⟨w.heap.size, 2, none⟩ = some (.slice none 0 0) := by rw [Lib.cell_of_heap ub]; rfl
            have g0 : w4.frozen? ⟨w.heap.size, 0, none⟩ = false := Lib.frozen_of_heap ub 0
            have g1 : w4.frozen? ⟨w.heap.size, 1, none⟩ = false := Lib.frozen_of_heap ub 1
            have g2 : w4.frozen? ⟨w.heap.size, 2, none⟩ = false := Lib.frozen_of_heap ub 2
            clear hr4 hb4 HLA ub m4 z0 z1 z2 f0 f1 f2
            generalize (In.failsL next row S j).contains true = y at *
            go_wp2_with fail
            refine HCO.out.mono ?_
            rintro e w5 ⟨rfl, rfl⟩
            clear HCO
            cases y with
            | false =>
              have HFI := hide (HFN.out 1 j (.slice none 0 0) w5 (.int .i64 1) (.int .i64 (j : Int)) (.slice none 0 0) (by rw [← HRU.out]; exact In.run_prv _ _ _ _ _ (by omega) (fun _ => HNO.out) HAF.out) (.inr ⟨by decide, rfl⟩) HB4.out)
              go_wp2_with fail
              refine bodyPost_ret_by (v := .tuple #[vdV 1 j (.slice none 0 0), .nilIface]) ?_ rfl ?_
              · simp [results, Tryz.results20, go_sem, vdV, y0, y1, y2]
              · exact HFI.out
            | true =>
              have HRN : Hid (In.run (!false) L (In.anyF next row S) (most + 1 - (j + 1)) (j + 1) = In.run (!false) L (In.anyF next row S) most 1) := by
                show _ = _
                rw [← HRU.out, In.run_go _ _ _ _ _ (by omega) (fun _ => HNO.out) HAF.out]
                rfl
              go_wp2_with fail
              go_roundw
              case rel => exact ⟨j + 1, f4, by omega, by omega, by go_num, rfl, HR4.out, HB4.out, HRN.out⟩
              case measure => simp [intOf]; omega
        | true =>
          have HLA := hide (HLT.out (fun h => by cases h))
          clear HLT
          go_wp2_with fail
          refine HLA.out.mono ?_
          rintro e w4 ⟨f4, rfl, hr4, hf4, hb4⟩
          have HR4 := hide hr4
          have HB4 := hide (HB.out.trans (hb4.mono HB.out.size))
          have HCO := hide (containsB_any _ true f4 S S w4 (In.failsL_len next row S j) (by omega) hr4)
          have HAF : Hid (In.anyF next row S j = (In.failsL next row S j).contains true) := by show _ = _; rfl
          have ub := (hb4.block w.heap.size (by have := HB.out.size; omega)).trans UB.out
          have y0 : w4.cell? ⟨w.heap.size, 0, none⟩ = some (.int .i64 0) := by rw [Lib.cell_of_heap ub]; rfl
          have y1 : w4.cell? ⟨w.heap.size, 1, none⟩ = some (.int .i64 0) := by rw [Lib.cell_of_heap ub]; rfl
          have y2 : w4.cell? ⟨w.heap.size, 2, none⟩ = some (.slice none 0 0) := by rw [Lib.cell_of_heap ub]; rfl
          have g0 : w4.frozen? ⟨w.heap.size, 0, none⟩ = false := Lib.frozen_of_heap ub 0
          have g1 : w4.frozen? ⟨w.heap.size, 1, none⟩ = false := Lib.frozen_of_heap ub 1
          have g2 : w4.frozen? ⟨w.heap.size, 2, none⟩ = false := Lib.frozen_of_heap ub 2
          clear hr4 hb4 HLA ub m4 z0 z1 z2 f0 f1 f2
          generalize (In.failsL next row S j).contains true = y at *
          go_wp2_with fail
          refine HCO.out.mono ?_
          rintro e w5 ⟨rfl, rfl⟩
          clear HCO
          cases y with
          | false =>
            have HFI := hide (HFN.out 1 j (.slice none 0 0) w5 (.int .i64 1) (.int .i64 (j : Int)) (.slice none 0 0) (by rw [← HRU.out]; exact In.run_prv _ _ _ _ _ (by omega) (fun h => by cases h) HAF.out) (.inr ⟨by decide, rfl⟩) HB4.out)
            go_wp2_with fail
            refine bodyPost_ret_by (v := .tuple #[vdV 1 j (.slice none 0 0), .nilIface]) ?_ rfl ?_
            · simp [results, Tryz.results20, go_sem, vdV, y0, y1, y2]
            · exact HFI.out
          | true =>
            have HRN : Hid (In.run (!true) L (In.anyF next row S) (most + 1 - (j + 1)) (j + 1) = In.run (!true) L (In.anyF next row S) most 1) := by
              show _ = _
              rw [← HRU.out, In.run_go _ _ _ _ _ (by omega) (fun h => by cases h) HAF.out]
              rfl
            go_wp2_with fail
            go_roundw
            case rel => exact ⟨j + 1, f4, by omega, by omega, by go_num, rfl, HR4.out, HB4.out, HRN.out⟩
            case measure => simp [intOf]; omega
      · have hjm : j = most + 1 := by omega
        have hji : ¬ (j : Int) ≤ (most : Int) := by omega
        have HFI := hide (HFN.out 3 most (.slice none 0 0) wr (.int .i64 3) (.int .i64 (most : Int)) (.slice none 0 0) (by rw [← HRU.out, hjm, Nat.sub_self]; rfl) (.inr ⟨by decide, rfl⟩) HB.out)
        go_wp2_with fail
        refine bodyPost_ret_by (v := .tuple #[vdV 3 most (.slice none 0 0), .nilIface]) ?_ rfl ?_
        · simp [results, Tryz.results20, go_sem, vdV, z0, z1, z2]
        · exact HFI.out
end
section
open Go.RowKit
set_option maxHeartbeats 8000000 in
set_option maxRecDepth 100000 in
theorem ICheck_out (ok : Nat → Prop) (bm : Nat) (p : Ld.Prg) (x : Ex) (v : Value) (most : Int) (w : World) (hm : IsMach w bm p) (hck : Ld.check p = none) (hS : Mc.total (Mc.parts p) ≤ 4096) (hq : (Ld.kindL p.names 1).length ≤ 6) (h : IsEx ok w x v) (hlen : x.size ≤ 1000000) (hbad : most < 1 ∨ 50 < most) (er : Int) (her : er = if Pr.has p.names x = true then 2 else 7) :
    Calls Tryz.prog 20 #[.pointer (some ⟨bm, 0, none⟩), v, .int .i64 most] w fun e w' => e = .returned (.tuple #[vdV 0 0 (.slice none 0 0), .iface 40 (.int .i64 er)]) ∧ Below w.heap.size w w' := by
  obtain ⟨wA, hwA⟩ : ∃ wA, wA = w.alloc (.cells #[.int .i64 0, .int .i64 0, .slice none 0 0] 59) := ⟨_, rfl⟩
  have hbA : Below w.heap.size w wA := by rw [hwA]; exact (Below.refl _ _).alloc (Nat.le_refl _) _
  have hzA : wA.heap.size = w.heap.size + 1 := by rw [hwA]; simp
  have hkA : wA.heap[w.heap.size]? = some (.cells #[.int .i64 0, .int .i64 0, .slice none 0 0] 59 (0, 0)) := by rw [hwA]; exact heap_alloc_new w _
  have HXA := hide (IsEx.stay (Stay.below hbA) (fun g _ => trivial) x v h (ok' := fun _ => True))
  have HMA := hide (hm.below hbA)
  have HG := hide (Good_any (fun _ => True) bm p x v wA HMA.out hck hS hq HXA.out hlen)
  have HGD : Hid (∀ e w', Gooded wA p x e w' → (Below wA.heap.size wA w' ∧ (if Pr.has p.names x then ∃ g us, e = .returned (.tuple #[.slice (some ⟨g, 0, none⟩) (Mc.total (Mc.parts p)) (Mc.total (Mc.parts p)), .nilIface]) ∧ us.length = Mc.total (Mc.parts p) ∧ GT wA g (Mc.total (Mc.parts p)) (2 ^ (Ld.kindL p.names 1).length) us (Pr.goodRow p x (2 ^ (Ld.kindL p.names 1).length)) w' else e = .returned (.tuple #[.slice none 0 0, .iface 40 (.int .i64 7)])))) := fun _ _ h => h
  obtain ⟨tu, yu, rfl⟩ := IsEx.iface x v h
  have HKA := hide hkA
  have HBA := hide hbA
  clear h hm hq hck hkA hbA HMA HXA
  generalize hrw : Pr.goodRow p x (2 ^ (Ld.kindL p.names 1).length) = row at *
  generalize Mc.total (Mc.parts p) = S at *
  generalize 2 ^ (Ld.kindL p.names 1).length = I at *
  clear hrw
  have HWA := hide hwA
  rw [hwA] at HG
  clear hwA
  go_enter Tryz.func20, Tryz.ntmps20
  go_wp2_with fail
  refine HG.out.mono ?_
  rw [← HWA.out]
  intro e w1 hg
  obtain ⟨hb1, hres⟩ := HGD.out e w1 hg
  clear hg HG HGD
  have hz1 := hb1.size
  have HER0 := hide her
  clear her
  cases hhas : Pr.has p.names x with
  | false =>
    clear hbad
    have HER : Hid (er = 7) := by show _ = _; rw [HER0.out, hhas]; rfl
    clear HER0
    rw [hhas, if_neg Bool.false_ne_true] at hres
    obtain rfl := hres
    have ub := (hb1.block w.heap.size (by omega)).trans HKA.out
    have z0 : w1.cell? ⟨w.heap.size, 0, none⟩ = some (.int .i64 0) := by rw [Lib.cell_of_heap ub]; rfl
    have z1 : w1.cell? ⟨w.heap.size, 1, none⟩ = some (.int .i64 0) := by rw [Lib.cell_of_heap ub]; rfl
    have z2 : w1.cell? ⟨w.heap.size, 2, none⟩ = some (.slice none 0 0) := by rw [Lib.cell_of_heap ub]; rfl
    have f0 : w1.frozen? ⟨w.heap.size, 0, none⟩ = false := Lib.frozen_of_heap ub 0
    have f1 : w1.frozen? ⟨w.heap.size, 1, none⟩ = false := Lib.frozen_of_heap ub 1
    have f2 : w1.frozen? ⟨w.heap.size, 2, none⟩ = false := Lib.frozen_of_heap ub 2
    have hb2 : Below w.heap.size w w1 := HBA.out.trans (hb1.mono (by omega))
    have HFN : Hid (∀ x_ y_ z_, Below w.heap.size w (((w1.setCell ⟨w.heap.size, 0, none⟩ x_).setCell ⟨w.heap.size, 1, none⟩ y_).setCell ⟨w.heap.size, 2, none⟩ z_)) := fun x_ y_ z_ => set3_below _ _ _ hb2 (Nat.le_refl _)
    clear hb1 hb2 ub
    go_wp2_with fail
    refine bodyPost_ret_by (v := .tuple #[vdV 0 0 (.slice none 0 0), .iface 40 (.int .i64 7)]) ?_ rfl ?_
    · simp [results, Tryz.results20, go_sem, vdV, z0, z1, z2]
    · exact ⟨by rw [HER.out], HFN.out _ _ _⟩
  | true =>
    have HER : Hid (er = 2) := by show _ = _; rw [HER0.out, hhas]; rfl
    clear HER0
    rw [hhas, if_pos rfl] at hres
    obtain ⟨g, us, rfl, hul, hgt⟩ := hres
    have ub := (hb1.block w.heap.size (by omega)).trans HKA.out
    have z0 : w1.cell? ⟨w.heap.size, 0, none⟩ = some (.int .i64 0) := by rw [Lib.cell_of_heap ub]; rfl
    have z1 : w1.cell? ⟨w.heap.size, 1, none⟩ = some (.int .i64 0) := by rw [Lib.cell_of_heap ub]; rfl
    have z2 : w1.cell? ⟨w.heap.size, 2, none⟩ = some (.slice none 0 0) := by rw [Lib.cell_of_heap ub]; rfl
    have f0 : w1.frozen? ⟨w.heap.size, 0, none⟩ = false := Lib.frozen_of_heap ub 0
    have f1 : w1.frozen? ⟨w.heap.size, 1, none⟩ = false := Lib.frozen_of_heap ub 1
    have f2 : w1.frozen? ⟨w.heap.size, 2, none⟩ = false := Lib.frozen_of_heap ub 2
    have hb2 : Below w.heap.size w w1 := HBA.out.trans (hb1.mono (by omega))
    have HFN : Hid (∀ x_ y_ z_, Below w.heap.size w (((w1.setCell ⟨w.heap.size, 0, none⟩ x_).setCell ⟨w.heap.size, 1, none⟩ y_).setCell ⟨w.heap.size, 2, none⟩ z_)) := fun x_ y_ z_ => set3_below _ _ _ hb2 (Nat.le_refl _)
    clear hb1 hb2 ub hgt hul
    by_cases hl : most < 1
    · clear hbad
      go_wp2_with fail
      refine bodyPost_ret_by (v := .tuple #[vdV 0 0 (.slice none 0 0), .iface 40 (.int .i64 2)]) ?_ rfl ?_
      · simp [results, Tryz.results20, go_sem, vdV, z0, z1, z2]
      · exact ⟨by rw [HER.out], HFN.out _ _ _⟩
    · have hl2 : (50 : Int) < most := by omega
      clear hbad
      go_wp2_with fail
      refine bodyPost_ret_by (v := .tuple #[vdV 0 0 (.slice none 0 0), .iface 40 (.int .i64 2)]) ?_ rfl ?_
      · simp [results, Tryz.results20, go_sem, vdV, z0, z1, z2]
      · exact ⟨by rw [HER.out], HFN.out _ _ _⟩
end
section
open Go.RowKit
namespace Rf
theorem ptrNe3 (w : World) (a : Addr) : (binOp BinOp.eql 22 (.pointer (some a)) (.pointer none)).run Tryz.prog w = .ok (.bool false) w := by kernel_rfl
theorem named_fits {l : List UInt8} {x : Ex} (h : Ex.parse l = .inr x) (n : List UInt8) (hn : n ∈ x.named true) : n.length ≤ maxLen := fits n (Ex.FitP.names 21 x (Ex.FitW.piece 20 x (Ex.parse_fit l x h)) n hn)
/-- what package induct told, as one reads it -/
def VP (w3 : World) (next : Nat → List Nat) (row : Nat → List Bool) (any : Nat → Bool) (most c k : Nat) (pv : Value) : Prop :=
  (Pr.Held next (Pr.wtC row) 0 ∧ In.run false 0 any most 1 = (c, k) ∧ pv = .slice none 0 0) ∨ ∃ l : List Nat, Pr.Broke next (Pr.wtC row) 0 l ∧ Pr.Least next (Pr.wtC row) 0 l ∧ In.run true l.length any most 1 = (c, k) ∧ ((c = 2 ∧ ∃ g cp, pv = .slice (some ⟨g, 0, none⟩) l.length cp ∧ l.length ≤ cp ∧ ∀ (j x : Nat), l[j]? = some x → w3.cell? ⟨g, j, none⟩ = some (.int .i64 (x : Int))) ∨ (c ≠ 2 ∧ pv = .slice none 0 0))
theorem VP.of {w w3 : World} {next : Nat → List Nat} {row : Nat → List Bool} {any : Nat → Bool} {most : Nat} {e : Ending} (h : Indd w next (Pr.wtC row) any most e w3) : ∃ c k a n cc, e = .returned (.tuple #[vdV c k (.slice a n cc), .nilIface]) ∧ VP w3 next row any most c k (.slice a n cc) := by
  rcases h with ⟨c, k, h1, h2, rfl⟩ | ⟨l, g, cp, cd, k, pv, h1, h2, h3, _, h5, rfl, h6⟩
  · exact ⟨c, k, none, 0, 0, rfl, .inl ⟨h1, h2, rfl⟩⟩
  · have h0 : 0 < l.length := by obtain ⟨m', i', rfl, _⟩ := h1; simp
    obtain ⟨h7, h8⟩ := own_rowN h3 h0
    rcases h6 with ⟨h9, rfl⟩ | ⟨h9, rfl⟩
    · exact ⟨cd, k, _, _, _, rfl, .inr ⟨l, h1, h2, h5, .inl ⟨h9, g, cp, rfl, h7, h8⟩⟩⟩
    · exact ⟨cd, k, _, _, _, rfl, .inr ⟨l, h1, h2, h5, .inr ⟨h9, rfl⟩⟩⟩
theorem VP.same {w3 W : World} {next : Nat → List Nat} {row : Nat → List Bool} {any : Nat → Bool} {most c k c' k' : Nat} {pv v' : Value} {b : Option (List Nat)} (h : VP w3 next row any most c k pv) (hb : Below w3.heap.size w3 W) (hbr : match b with
  | none => Pr.Held next (Pr.wtC row) 0
  | some q => Pr.Broke next (Pr.wtC row) 0 q ∧ Pr.Least next (Pr.wtC row) 0 q) (hv : BestV W b v') (hr : In.run b.isSome (In.lenO b) any most 1 = (c', k')) : c' = c ∧ k' = k ∧ ∃ l : List Nat, l.length ≤ 5000 ∧ Ints W pv (asI l) ∧ Ints W (if c' = 2 then v' else .slice none 0 0) (asI l) := by
  have nil : Ints W (.slice none 0 0) (asI []) := .inl ⟨rfl, none, 0, rfl⟩
  rcases h with ⟨h1, h2, rfl⟩ | ⟨l, h1, h2, h3, h4⟩
  · cases b with
    | some q => exact absurd h1 (hbr.1.not (Nat.le_refl _))
    | none =>
      have hr2 : In.run false 0 any most 1 = (c', k') := hr
      rw [h2] at hr2
      cases hr2
      have hne : c ≠ 2 := fun e => In.run_false 0 any most 1 (by rw [h2]; exact e)
      refine ⟨rfl, rfl, [], Nat.zero_le _, nil, ?_⟩
      rw [if_neg hne]
      exact nil
  · cases b with
    | none => exact absurd hbr (h1.not (Nat.le_refl _))
    | some q =>
      have hlq : l = q := Pr.Least.one h1 hbr.1 h2 hbr.2
      subst hlq
      have hr2 : In.run true l.length any most 1 = (c', k') := hr
      rw [h3] at hr2
      cases hr2
      obtain ⟨h5, a, cc, rfl, hac, hcells⟩ := hv
      rcases h4 with ⟨rfl, g, cp, rfl, h6, h7⟩ | ⟨hne, rfl⟩
      · refine ⟨rfl, rfl, l, h5, ints_row2 h6 fun j x hx => ⟨(hcells j x hx).1, (hb.cell (World.block_lt_of_cell? _ _ (h7 j x hx))).trans (h7 j x hx)⟩, ?_⟩
        rw [if_pos rfl]
        exact ints_row2 hac hcells
      · refine ⟨rfl, rfl, [], Nat.zero_le _, nil, ?_⟩
        rw [if_neg hne]
        exact nil
/-- a verdict in a block of its own -/
theorem verd {w3 W : World} {c k : Int} {pv : Value} (h : Below (w3.alloc (.cells #[.int .i64 c, .int .i64 k, pv] 59)).heap.size (w3.alloc (.cells #[.int .i64 c, .int .i64 k, pv] 59)) W) : W.cell? ⟨w3.heap.size, 0, none⟩ = some (.int .i64 c) ∧ W.cell? ⟨w3.heap.size, 1, none⟩ = some (.int .i64 k) ∧ W.cell? ⟨w3.heap.size, 2, none⟩ = some pv := by
  have e := at1 h
  exact ⟨by rw [Lib.cell_of_heap e]; rfl, by rw [Lib.cell_of_heap e]; rfl, by rw [Lib.cell_of_heap e]; rfl⟩
set_option maxHeartbeats 16000000 in
set_option maxRecDepth 100000 in
theorem inductChecks_of (hbo : ∀ (s : ByteArray) (w : World), s.size ≤ maxLen → Laid w → PLaid w → Calls Tryz.prog 28 #[.string s] w (Sl.Both s w)) (s t : ByteArray) (most : Int) (w : World) (hs : s.size ≤ maxLen) (ht : t.size ≤ maxLen) (hL : Laid w) (hP : PLaid w) :
    Calls Tryz.prog 5 #[.string s, .string t, .int .i64 most] w fun e w' => e = .returned (.bool true) ∧ Below w.heap.size w w' := by
  have HMS := hide (machines_of hbo s 40 w hs hL hP)
  have HRD : Hid (∀ W, Below w.heap.size w W → Calls Tryz.prog 9 #[.string t] W (ReadBothP W)) := fun W hW => readP_any t W ht (hP.r.fine.below hW)
  have HL := hide hL
  have HP := hide hP
  clear hL hP
  go_enter Tryz.func5, Tryz.ntmps5
  go_wp2_with fail
  refine HMS.out.mono ?_
  rintro e w1 ⟨hb1, he⟩
  clear HMS
  have HRD1 := hide (HRD.out w1 hb1)
  have HB1 := hide hb1
  clear HRD hb1
  rcases he with rfl | ⟨p, bm, bx, rfl, _, hmach, hrm, hck, hok, hq4, hS60⟩
  · go_wp2_with fail
    refine HRD1.out.mono ?_
    rintro e w2 ⟨hb2, he2⟩
    have HB2 : Hid (Below w.heap.size w w2) := then_ HB1.out hb2
    clear hb2 HRD1
    rcases he2 with rfl | ⟨x, v, g, rfl, _⟩
    · go_wp2_with fail
      go_ret
      exact ⟨rfl, HB2.out⟩
    · go_wp2_with fail
      go_ret
      exact ⟨rfl, HB2.out⟩
  · have HMA := hide hmach
    have HRM := hide hrm
    have HCK := hide hck
    have HOK := hide hok
    clear hmach hrm hck hok
    go_wp2_with fail
    refine HRD1.out.mono ?_
    rintro e w2 ⟨hb2, he2⟩
    have HB12 := hide hb2
    have HB2 : Hid (Below w.heap.size w w2) := then_ HB1.out hb2
    clear hb2 HRD1
    rcases he2 with rfl | ⟨x, v, g, rfl, hxe, hxr, hsz, l0, hl0⟩
    · go_wp2_with fail
      go_ret
      exact ⟨rfl, HB2.out⟩
    · have hmach := HMA.out.below HB12.out
      have hrm := HRM.out.below HB12.out
      have hck := HCK.out
      have hok := HOK.out
      have hI6 := hok.1
      have hrl : RLaid w2 := HP.out.r.below HB2.out
      have hnf := fun n hn => named_fits hl0 n hn
      have pn := fun w a => ptrNe3 w a
      have HWX : Hid (∀ W, Below w2.heap.size w2 W → Below w.heap.size w W) := fun W hW => then_ HB2.out hW
      have HLB : Hid (∀ W (e : Int), Below w2.heap.size w2 W → Calls Tryz.prog 12 #[.iface 40 (.int .i64 e), .int .i64 e] W fun e w' => e = .returned (.bool true) ∧ Below W.heap.size W w') := fun W e hW => Sl.lbare_any e W (HL.out.below (HWX.out W hW)).door
      obtain ⟨nv3, rv3, nx3, us3, q3, k1, k2, _⟩ := id hrm
      obtain ⟨nv', rv', he', hnn, hrr⟩ := id k2
      simp only [Value.agg.injEq, List.toArray_eq_iff, List.cons.injEq, and_true] at he'
      obtain ⟨rfl, rfl⟩ := he'
      obtain ⟨na, nc, rfl, _⟩ := hnn.slice
      obtain ⟨ra, rc, rfl, _⟩ := hrr.slice
      have HKN : Hid (∀ W (nb : Nat), Below w2.heap.size w2 W → nb = W.heap.size → Calls Tryz.prog 13 #[.agg #[.slice na p.names.length nc, .slice ra p.rungs.length rc], .slice (some ⟨nb, 0, none⟩) 1 1] (W.alloc (.cells #[.pointer (some ⟨g, 0, none⟩)] 28)) fun e w' => e = .returned (.bool (Pr.has p.names x)) ∧ Below W.heap.size W w') := fun W nb hW hnb => by
        subst hnb
        have hA : Below w2.heap.size w2 (W.alloc (.cells #[.pointer (some ⟨g, 0, none⟩)] 28)) := then_ hW (below_al _ _)
        have h := known_any p.names _ (.slice ra p.rungs.length rc) [x] [g] W.heap.size 1 _ (hnn.below hA) ⟨_, _, _, rfl⟩ (hrl.below hA) (fun i g' h => by
          cases i with
          | succ i => simp at h
          | zero =>
            simp only [List.getElem?_cons_zero, Option.some.injEq] at h
            subst h
            rw [Lib.cell_of_heap (heap_alloc_new _ _)]
            rfl) (fun i x' h => by
          cases i with
          | succ i => simp at h
          | zero =>
            simp only [List.getElem?_cons_zero, Option.some.injEq] at h
            subst h
            exact ⟨g, rfl, IsRx.stay (Stay.below hA) (fun _ h => h) x g hxr, hsz⟩) (Nat.le_refl _) (by simp)
        refine h.mono ?_
        rintro e w' ⟨rfl, hb⟩
        exact ⟨by simp, then_ (below_al _ _) hb⟩
      have HXC : Hid (∀ W, Below w2.heap.size w2 W → W.cell? ⟨bx, 0, none⟩ = some (.slice na p.names.length nc) ∧ W.cell? ⟨bx, 1, none⟩ = some (.slice ra p.rungs.length rc)) := fun W hW => (k1.below hW).cells.1
      have HRI : Hid (∀ m : Nat, most = (m : Int) → 1 ≤ m → m ≤ 50 → ∀ W, Below w2.heap.size w2 W → Calls Tryz.prog 21 #[.pointer (some ⟨bx, 0, none⟩), .pointer (some ⟨g, 0, none⟩), .int .i64 most] W (In.InD W (Mc.nexts p) (Pr.goodRow p x (2 ^ (Ld.kindL p.names 1).length)) (Pr.anyP p x) m)) := fun m hm h1 h2 W hW => by
        subst hm
        exact In.RInduct_any bx g p x m W (hrm.below hW) (hrl.below hW) hck hok.1 hok.2 (IsRx.stay (Stay.below hW) (fun _ h => h) x g hxr) hnf h1 h2
      have HIC : Hid (Calls Tryz.prog 20 #[.pointer (some ⟨bm, 0, none⟩), v, .int .i64 most] w2 fun e w' => Below w2.heap.size w2 w' ∧ ((Pr.has p.names x = false ∧ e = .returned (.tuple #[vdV 0 0 (.slice none 0 0), .iface 40 (.int .i64 7)])) ∨ (Pr.has p.names x = true ∧ (most < 1 ∨ 50 < most) ∧ e = .returned (.tuple #[vdV 0 0 (.slice none 0 0), .iface 40 (.int .i64 2)])) ∨ (Pr.has p.names x = true ∧ ∃ (m c k : Nat) (a : Option Addr) (n cc : Nat), most = (m : Int) ∧ 1 ≤ m ∧ m ≤ 50 ∧ e = .returned (.tuple #[vdV c k (.slice a n cc), .nilIface]) ∧ VP w' (Mc.nexts p) (Pr.goodRow p x (2 ^ (Ld.kindL p.names 1).length)) (Pr.anyP p x) m c k (.slice a n cc)))) := by
        by_cases hbad : most < 1 ∨ 50 < most
        · refine (ICheck_out (fun _ => True) bm p x v most w2 hmach hck hok.2 hok.1 hxe hsz hbad _ rfl).mono ?_
          rintro e w' ⟨rfl, hb⟩
          refine ⟨hb, ?_⟩
          cases hh : Pr.has p.names x with
          | false => exact .inl ⟨rfl, rfl⟩
          | true => exact .inr (.inl ⟨rfl, hbad, rfl⟩)
        · obtain ⟨m, hm⟩ : ∃ m : Nat, most = (m : Int) := ⟨most.toNat, by omega⟩
          have h1 : 1 ≤ m := by omega
          have h2 : m ≤ 50 := by omega
          rw [hm]
          refine (ICheck_any (fun _ => True) bm p x v m w2 hmach hck hok.2 hok.1 hxe hsz h1 h2).mono ?_
          rintro e w' ⟨hb, hres⟩
          refine ⟨hb, ?_⟩
          cases hh : Pr.has p.names x with
          | false => rw [hh, if_neg Bool.false_ne_true] at hres; exact .inl ⟨rfl, hres⟩
          | true =>
            rw [hh, if_pos rfl] at hres
            obtain ⟨c, k, a, n, cc, he, hv⟩ := VP.of hres
            exact .inr (.inr ⟨rfl, m, c, k, a, n, cc, rfl, h1, h2, he, hv⟩)
      obtain ⟨tu, yu, rfl⟩ := IsEx.iface x v hxe
      generalize Mc.nexts p = next at *
      generalize Mc.total (Mc.parts p) = S at *
      generalize 2 ^ (Ld.kindL p.names 1).length = I at *
      generalize Pr.goodRow p x I = row at *
      generalize Pr.anyP p x = any at *
      generalize p.names.length = n at *
      generalize p.rungs.length = m at *
      obtain ⟨hh, hhe⟩ : ∃ hh, hh = Pr.has p.names x := ⟨_, rfl⟩
      rw [← hhe] at HKN HIC
      clear hmach hrm hck hok hI6 hrl hnf hxe hxr hsz hl0 k1 k2 hnn hrr hhe HMA HRM HCK HOK
      go_wp2_with fail
      refine HIC.out.mono ?_
      rintro e w3 ⟨hb3, hres⟩
      have HB3 : Hid (Below w2.heap.size w2 w3) := hb3
      clear hb3 HIC
      rcases hres with ⟨rfl, rfl⟩ | ⟨rfl, hbad, rfl⟩ | ⟨rfl, mm, c, k, a, nn, cc, hmm, hm1, hm2, rfl, hvp⟩
      · obtain ⟨wV, hwV⟩ : ∃ wV, wV = w3.alloc (.cells #[.int .i64 0, .int .i64 0, .slice none 0 0] 59) := ⟨_, rfl⟩
        have HV : Hid (∀ W, Below wV.heap.size wV W → W.cell? ⟨w3.heap.size, 0, none⟩ = some (.int .i64 0)) := fun W hW => by rw [hwV] at hW; exact (verd hW).1
        have HBV : Hid (Below w2.heap.size w2 wV) := by rw [hwV]; exact then_ HB3.out (below_al _ _)
        have HK8 := hide (HKN.out wV (w3.heap.size + 1) HBV.out (by rw [hwV, World.size_alloc]))
        obtain ⟨c0, c1⟩ := HXC.out wV HBV.out
        have c0' := c0
        have c1' := c1
        rw [hwV] at c0 c1 HK8
        have HWV := hide hwV
        have d0 := cell_alloc_keep w3
        obtain ⟨e0, e1⟩ := HXC.out w3 HB3.out
        clear hwV c0' c1' d0
        unfold vdV
        go_wp2_with fail
        refine HK8.out.mono ?_
        rintro e w9 ⟨rfl, hb⟩
        rw [← HWV.out] at hb
        have HVB : Hid (Below wV.heap.size wV w9) := hb
        have HB9 : Hid (Below w2.heap.size w2 w9) := then_ HBV.out hb
        have HA9 := hide (HLB.out w9 7 HB9.out)
        clear hb HK8 c0 c1 e0 e1
        go_wp2_with fail
        refine HA9.out.mono ?_
        rintro e w10 ⟨rfl, hb⟩
        have z0 := HV.out w10 (then_ HVB.out hb)
        have HF := hide (HWX.out w10 (then_ HB9.out hb))
        clear hb HA9
        go_wp2_with fail
        go_ret
        exact ⟨ret_bool (by first | rfl | simp), HF.out⟩
      · obtain ⟨wV, hwV⟩ : ∃ wV, wV = w3.alloc (.cells #[.int .i64 0, .int .i64 0, .slice none 0 0] 59) := ⟨_, rfl⟩
        have HV : Hid (∀ W, Below wV.heap.size wV W → W.cell? ⟨w3.heap.size, 0, none⟩ = some (.int .i64 0) ∧ W.cell? ⟨w3.heap.size, 1, none⟩ = some (.int .i64 0) ∧ W.cell? ⟨w3.heap.size, 2, none⟩ = some (.slice none 0 0)) := fun W hW => by rw [hwV] at hW; exact verd hW
        have HBV : Hid (Below w2.heap.size w2 wV) := by rw [hwV]; exact then_ HB3.out (below_al _ _)
        have HK8 := hide (HKN.out wV (w3.heap.size + 1) HBV.out (by rw [hwV, World.size_alloc]))
        obtain ⟨c0, c1⟩ := HXC.out wV HBV.out
        rw [hwV] at c0 c1 HK8
        have HWV := hide hwV
        obtain ⟨e0, e1⟩ := HXC.out w3 HB3.out
        have HBAD := hide hbad
        clear hwV hbad
        unfold vdV
        go_wp2_with fail
        refine HK8.out.mono ?_
        rintro e w9 ⟨rfl, hb⟩
        rw [← HWV.out] at hb
        have HVB : Hid (Below wV.heap.size wV w9) := hb
        have HB9 : Hid (Below w2.heap.size w2 w9) := then_ HBV.out hb
        have HA9 := hide (HLB.out w9 2 HB9.out)
        clear hb HK8 c0 c1 e0 e1
        by_cases hl : most < 1
        · go_wp2_with fail
          refine HA9.out.mono ?_
          rintro e w10 ⟨rfl, hb⟩
          obtain ⟨z0, z1, z2⟩ := HV.out w10 (then_ HVB.out hb)
          have HF := hide (HWX.out w10 (then_ HB9.out hb))
          clear hb HA9
          go_wp2_with fail
          go_ret
          exact ⟨ret_bool (by first | rfl | simp), HF.out⟩
        · have hl2 : (50 : Int) < most := by have := HBAD.out; omega
          go_wp2_with fail
          refine HA9.out.mono ?_
          rintro e w10 ⟨rfl, hb⟩
          obtain ⟨z0, z1, z2⟩ := HV.out w10 (then_ HVB.out hb)
          have HF := hide (HWX.out w10 (then_ HB9.out hb))
          clear hb HA9
          go_wp2_with fail
          go_ret
          exact ⟨ret_bool (by first | rfl | simp), HF.out⟩
      · obtain ⟨ci, hci⟩ : ∃ ci : Int, ci = (c : Int) := ⟨_, rfl⟩
        obtain ⟨ki, hki⟩ : ∃ ki : Int, ki = (k : Int) := ⟨_, rfl⟩
        have hvd : vdV c k (.slice a nn cc) = .agg #[.int .i64 ci, .int .i64 ki, .slice a nn cc] := by rw [hci, hki]; rfl
        rw [hvd]
        obtain ⟨wV, hwV⟩ : ∃ wV, wV = w3.alloc (.cells #[.int .i64 ci, .int .i64 ki, .slice a nn cc] 59) := ⟨_, rfl⟩
        have HV : Hid (∀ W, Below wV.heap.size wV W → (W.cell? ⟨w3.heap.size, 0, none⟩ = some (.int .i64 ci) ∧ W.cell? ⟨w3.heap.size, 1, none⟩ = some (.int .i64 ki) ∧ W.cell? ⟨w3.heap.size, 2, none⟩ = some (.slice a nn cc)) ∧ Below w3.heap.size w3 W) := fun W hW => by rw [hwV] at hW; exact ⟨verd hW, then_ (below_al _ _) hW⟩
        have HBV : Hid (Below w2.heap.size w2 wV) := by rw [hwV]; exact then_ HB3.out (below_al _ _)
        have HK8 := hide (HKN.out wV (w3.heap.size + 1) HBV.out (by rw [hwV, World.size_alloc]))
        obtain ⟨c0, c1⟩ := HXC.out wV HBV.out
        rw [hwV] at c0 c1 HK8
        have HWV := hide hwV
        obtain ⟨e0, e1⟩ := HXC.out w3 HB3.out
        have HCI := hide hci
        have HKI := hide hki
        have HVP := hide hvp
        have hl1 : ¬ most < 1 := by omega
        have hl2 : ¬ (50 : Int) < most := by omega
        have HRI2 := hide (HRI.out mm hmm hm1 hm2)
        clear hwV hci hki hvd hvp hmm hm1 hm2 HRI
        go_wp2_with fail
        refine HK8.out.mono ?_
        rintro e w9 ⟨rfl, hb⟩
        rw [← HWV.out] at hb
        have HVB : Hid (Below wV.heap.size wV w9) := hb
        have HB9 : Hid (Below w2.heap.size w2 w9) := then_ HBV.out hb
        have HI9 := hide (HRI2.out w9 HB9.out)
        clear hb HK8 c0 c1 e0 e1 HRI2
        go_wp2_with fail
        refine HI9.out.mono ?_
        rintro e w10 ⟨hb, b, v', c', k', hbv, hbr, hrun, rfl⟩
        obtain ⟨⟨z0, z1, z2⟩, h310⟩ := HV.out w10 (then_ HVB.out hb)
        obtain ⟨e1, e2, l, hl5, hi1, hi2⟩ := HVP.out.same h310 hbr hbv hrun
        have HB10 : Hid (Below w2.heap.size w2 w10) := then_ HB9.out hb
        obtain ⟨pv2, hpv2⟩ : ∃ pv2, pv2 = (if c' = 2 then v' else .slice none 0 0) := ⟨_, rfl⟩
        rw [← hpv2] at hi2 ⊢
        have hc1 : (c' : Int) = ci := by rw [HCI.out, e1]
        have hc2 : (k' : Int) = ki := by rw [HKI.out, e2]
        rw [hc1, hc2]
        have HSI := hide (lsameI_any (asI l) _ _ w10 hi1 hi2 (by rw [asI_len]; omega))
        have hq1 : (ci == ci) = true := by simp
        have hq2 : (ki == ki) = true := by simp
        clear hb hbv hbr hrun h310 hl5 hi1 hi2 hpv2 hc1 hc2 e1 e2 HI9
        go_wp2_with fail
        refine HSI.out.mono ?_
        rintro e w13 ⟨rfl, hb⟩
        have HF := hide (HWX.out w13 (then_ HB10.out hb))
        clear hb HSI
        go_wp2_with fail
        go_ret
        exact ⟨ret_bool (by first | rfl | simp), HF.out⟩
end Rf
end
end Go.Proofs.YtgldbliohpfljaaGreatDoor
