/-
  What stands in memory while package prop's Good is filled: a table of rows of bools. The walks of package induct's failsNow and failsLater. A machine's table, state by state. The table and the sizes of a machine of few states. What package prop asks of a machine: its program, its states, what it sees, and whether an expression is good at a state and an input.
-/
import Derived.Test.YtjlkjhmmbaljiaaGreatDoorPrSmallAll
import Derived.Test.YtjlkjhmmbaljiaaGreatDoorPrSearchAll
import Derived.Test.YtjlkjhmmbaljiaaGreatDoorPrLeastAll
import Derived.Test.YtjlkjhmmbaljiaaGreatDoorMcD7All
import Derived.Test.YtjlkjhmmbaljiaaGreatDoorKeMadeAll
import Derived.Test.YtjlkjhmmbaljiaaGreatDoorRcNextAll
namespace Go.Proofs.YtjlkjhmmbaljiaaGreatDoor
section
open Go.RowKit
/-- a table of rows of bools that a call has made: those that are there, the others nil -/
structure GT (w : World) (g S I : Nat) (us : List Nat) (row : Nat → List Bool) (W : World) : Prop where
  few : us.length ≤ S
  top : RowIs W g 67 (us.map (fun b => slV b I) ++ List.replicate (S - us.length) (.slice none 0 0))
  rows : ∀ (s b : Nat), us[s]? = some b → BRow W b (row s) [] ∧ g < b
  len : ∀ s, s < us.length → (row s).length = I
  lo : w.heap.size ≤ g
  bel : Below w.heap.size w W
theorem GT.below {w W W' : World} {g S I : Nat} {us : List Nat} {row : Nat → List Bool} (h : GT w g S I us row W) (hb : Below W.heap.size W W') : GT w g S I us row W' :=
  ⟨h.few, RowIs.below h.top hb, fun s b hs => ⟨(h.rows s b hs).1.below hb, (h.rows s b hs).2⟩, h.len, h.lo, h.bel.trans (hb.mono h.bel.size)⟩
/-- one row more, all false -/
theorem GT.new {w W : World} {g S I : Nat} {us : List Nat} {row : Nat → List Bool} (h : GT w g S I us row W) (hk : us.length < S) (l : List Bool) (hl : l.length = I) (cS : List Value) (hc : cS = List.replicate I (.bool false)) : GT w g S I (us ++ [W.heap.size]) (fun s => if s = us.length then Rc.inTo l 0 else row s) ((W.setCell ⟨g, us.length, none⟩ (.slice (some ⟨W.heap.size, 0, none⟩) I I)).alloc (.cells ⟨cS⟩ 4)) := by
  have hg : g < W.heap.size := h.top.lt
  have hz : (W.setCell ⟨g, us.length, none⟩ (.slice (some ⟨W.heap.size, 0, none⟩) I I)).heap.size = W.heap.size := by simp [World.setCell]
  refine ⟨by simp; omega, ?_, ?_, ?_, h.lo, ?_⟩
  · have h1 := (h.top.set us.length (.slice (some ⟨W.heap.size, 0, none⟩) I I)).alloc (.cells ⟨cS⟩ 4)
    have h2 := fill_set (us.map (fun b => slV b I)) (.slice none 0 0) (slV W.heap.size I) S (by simpa using hk)
    rw [List.length_map] at h2
    unfold slV at h1 h2 ⊢
    rw [h2] at h1
    rw [List.map_append, List.length_append]
    simpa using h1
  · intro s b hs
    by_cases hsl : s < us.length
    · rw [List.getElem?_append_left hsl] at hs
      obtain ⟨h1, h2⟩ := h.rows s b hs
      rw [if_neg (by omega)]
      exact ⟨RowIs.alloc (RowIs.other h1 g us.length _ (by omega)) _, h2⟩
    · have hse : s = us.length := by
        have := (List.getElem?_eq_some_iff.1 hs).1
        simp at this
        omega
      subst hse
      rw [List.getElem?_append_right (Nat.le_refl _)] at hs
      simp at hs
      subst hs
      rw [if_pos rfl]
      refine ⟨?_, hg⟩
      have h1 := RowIs.new (W.setCell ⟨g, us.length, none⟩ (.slice (some ⟨W.heap.size, 0, none⟩) I I)) 4 cS
      rw [hz] at h1
      unfold BRow
      rw [Rc.inTo_zero, hl, List.append_nil, List.map_replicate]
      rw [hc] at h1 ⊢
      exact h1
  · intro s hs
    split
    · rw [Rc.inTo_len _ _ (Nat.zero_le _)]; exact hl
    · refine h.len s ?_
      simp at hs
      omega
  · have h1 : Below w.heap.size w (W.setCell ⟨g, us.length, none⟩ (.slice (some ⟨W.heap.size, 0, none⟩) I I)) := h.bel.setCell (p := ⟨g, us.length, none⟩) h.lo _
    exact h1.alloc h1.size _
/-- one more of the last row -/
theorem GT.set {w W : World} {g S I b i : Nat} {us : List Nat} {row : Nat → List Bool} {l : List Bool} {x : Bool} (h : GT w g S I (us ++ [b]) (fun s => if s = us.length then Rc.inTo l i else row s) W) (hd : ∀ s : Nat, us[s]? ≠ some b) (hl : l.length = I) (hi : i < I) (hx : l[i]? = some x) : GT w g S I (us ++ [b]) (fun s => if s = us.length then Rc.inTo l (i + 1) else row s) (W.setCell ⟨b, i, none⟩ (.bool x)) := by
  obtain ⟨h1, h2⟩ := h.rows us.length b (by rw [List.getElem?_append_right (Nat.le_refl _)]; simp)
  rw [if_pos rfl] at h1
  refine ⟨h.few, RowIs.other h.top b i _ (by omega), ?_, ?_, h.lo, h.bel.setCell (p := ⟨b, i, none⟩) (by show w.heap.size ≤ b; have := h.lo; omega) _⟩
  · intro s c hs
    by_cases hsl : s < us.length
    · obtain ⟨h3, h4⟩ := h.rows s c hs
      rw [List.getElem?_append_left hsl] at hs
      rw [if_neg (by omega)] at h3 ⊢
      exact ⟨RowIs.other h3 b i _ (fun e => hd s (e ▸ hs)), h4⟩
    · have hse : s = us.length := by
        have := (List.getElem?_eq_some_iff.1 hs).1
        simp at this
        omega
      subst hse
      rw [List.getElem?_append_right (Nat.le_refl _)] at hs
      simp at hs
      subst hs
      rw [if_pos rfl]
      have h5 := h1.set i x (by rw [Rc.inTo_len _ _ (by omega)]; omega)
      rw [Rc.inTo_set l i (by omega) x hx] at h5
      exact ⟨h5, h2⟩
  · intro s hs
    split
    · rw [Rc.inTo_len _ _ (by omega)]; exact hl
    · have := h.len s hs
      rw [if_neg (by assumption)] at this
      exact this
end
section
open Go.RowKit
theorem Rc.inTo_skip (l : List Bool) (k : Nat) (hx : l[k]? = some false) : Rc.inTo l k = Rc.inTo l (k + 1) := by
  have hk := (List.getElem?_eq_some_iff.1 hx).1
  rw [← Rc.inTo_set l k hk false hx]
  have h := Rc.inTo_at l k hk
  refine (List.ext_getElem? fun i => ?_)
  by_cases e : k = i
  · subst e
    rw [h, List.getElem?_set_self (by rw [Rc.inTo_len _ _ (by omega)]; exact hk)]
  · rw [List.getElem?_set_ne e]
/-- what a list of states comes to: a row of its own -/
def Failed (w : World) (S : Nat) (l : List Bool) (e : Ending) (w' : World) : Prop := ∃ f, e = .returned (.slice (some ⟨f, 0, none⟩) S S) ∧ BRow w' f l [] ∧ w.heap.size ≤ f ∧ Below w.heap.size w w'
set_option maxHeartbeats 4000000 in
set_option maxRecDepth 100000 in
theorem failsNow_any (w0 : World) (g S I : Nat) (us : List Nat) (next : Nat → List Nat) (row : Nat → List Bool) (w : World) (h : GT w0 g S I us row w) (hus : us.length = S) (hS : S ≤ 4096) (hI : I ≤ 64) :
    Calls Tryz.prog 20 #[.slice (some ⟨g, 0, none⟩) S S] w (Failed w S (In.failsL next row S 0)) := by
  have HG := hide h
  have HU := hide hus
  have mk := fun w => makeBs S (by omega) w
  obtain ⟨cS, hcS⟩ : ∃ c, c = List.replicate S (Value.bool false) := ⟨_, rfl⟩
  rw [← hcS] at mk
  obtain ⟨L, hL⟩ : ∃ L, L = In.failsL next row S 0 := ⟨_, rfl⟩
  have HLL : Hid (L.length = S) := by show _ = _; rw [hL]; exact In.failsL_len ..
  have HLA : Hid (∀ s, s < S → L[s]? = some ((row s).contains false)) := fun s hs => by rw [hL]; exact In.failsL_at next row S 0 s hs
  obtain ⟨w1, hw1⟩ : ∃ w1, w1 = w.alloc (.cells ⟨cS⟩ 4) := ⟨_, rfl⟩
  have HR1 : Hid (BRow w1 w.heap.size (Rc.inTo L 0) []) := by
    unfold BRow
    rw [Rc.inTo_zero, HLL.out, List.append_nil, List.map_replicate, hw1, hcS]; exact RowIs.new _ _ _
  have HB1 : Hid (Below w.heap.size w w1) := by rw [hw1]; exact (Below.refl _ _).alloc (Nat.le_refl _) _
  have HFD : Hid (∀ f W, BRow W f L [] → w.heap.size ≤ f → Below w.heap.size w W → Failed w S (In.failsL next row S 0) (.returned (.slice (some ⟨f, 0, none⟩) S S)) W) := fun f W h1 h2 h3 => ⟨f, rfl, hL ▸ h1, h2, h3⟩
  have hgl := h.top.lt
  clear h hus hcS hL
  go_enter Tryz.func20, Tryz.ntmps20
  go_wp2_with fail
  rw [← hw1]
  clear hw1
  go_loopw [11] (fun i wr => ∃ k : Nat, k ≤ S ∧ i = .int .i64 (k : Int) ∧ Hid (BRow wr w.heap.size (Rc.inTo L k) []) ∧ Hid (Below w.heap.size w wr)) (fun i _ => S - (intOf i).toNat)
  case atStart => exact ⟨0, Nat.zero_le _, rfl, HR1.out, HB1.out⟩
  case round =>
    clear HR1 HB1
    obtain ⟨k, hk, rfl, HR, HB⟩ := hrel
    by_cases hlt : k < S
    · obtain ⟨b, hb⟩ : ∃ b, us[k]? = some b := ⟨_, List.getElem?_eq_getElem (by rw [HU.out]; exact hlt)⟩
      have hgt := HG.out.below HB.out
      have r0 := hgt.top.cell k (.slice (some ⟨b, 0, none⟩) I I) (by rw [List.getElem?_append_left (by simp; rw [HU.out]; exact hlt), List.getElem?_map, hb]; rfl)
      have HC := hide (containsB_any (row k) false b I I wr (hgt.len k (by rw [HU.out]; exact hlt)) (by omega) (hgt.rows k b hb).1)
      have c0 := HR.out.cell k _ (Rc.inTo_at _ _ (by rw [HLL.out]; exact hlt))
      have f0 := RowIs.frozen HR.out k
      have hki : (k : Int) < (S : Int) := by omega
      have HRN : Hid (BRow (wr.setCell ⟨w.heap.size, k, none⟩ (.bool ((row k).contains false))) w.heap.size (Rc.inTo L (k + 1)) []) := by
        have h1 := HR.out.set k ((row k).contains false) (by rw [Rc.inTo_len _ _ (by rw [HLL.out]; omega), HLL.out]; exact hlt)
        rw [Rc.inTo_set L k (by rw [HLL.out]; exact hlt) _ (HLA.out k hlt)] at h1
        exact h1
      have HBN : Hid (Below w.heap.size w (wr.setCell ⟨w.heap.size, k, none⟩ (.bool ((row k).contains false)))) := HB.out.setCell (p := ⟨w.heap.size, k, none⟩) (Nat.le_refl _) _
      have hwl : w.heap.size < wr.heap.size := World.block_lt_of_cell? _ _ c0
      have hgw : g ≠ w.heap.size := by omega
      generalize (row k).contains false = y at *
      clear hgt hb
      go_wp2_with fail
      refine HC.out.mono ?_
      rintro e w2 ⟨rfl, rfl⟩
      clear HC
      go_wp2_with fail
      go_roundw
      case rel => exact ⟨k + 1, by omega, by go_num, HRN.out, HBN.out⟩
      case measure => simp [intOf]; omega
    · have hkn : k = S := by omega
      have HE : Hid (BRow wr w.heap.size L []) := by
        have h1 := HR.out
        rw [hkn, ← HLL.out, Rc.inTo_all] at h1
        exact h1
      have HF := hide (HFD.out _ wr HE.out (Nat.le_refl _) HB.out)
      subst hkn
      go_wp2_with fail
      go_ret
      exact HF.out
/-- nothing is found among the first -/
theorem In.later_skip (next : Nat → List Nat) (row : Nat → List Bool) (k s j : Nat) (h : ((List.range j).any fun i => (row s).getD i false && In.fails next row k ((next s).getD i 0)) = false) (x : Bool) (hx : ((row s).getD j false && In.fails next row k ((next s).getD j 0)) = x) : ((List.range (j + 1)).any fun i => (row s).getD i false && In.fails next row k ((next s).getD i 0)) = x := by
  rw [List.range_succ, List.any_append, h]
  simpa using hx
theorem In.later_found (next : Nat → List Nat) (row : Nat → List Bool) (k s j : Nat) (hj : j < (row s).length) (hx : ((row s).getD j false && In.fails next row k ((next s).getD j 0)) = true) : In.fails next row (k + 1) s = true := by
  unfold In.fails
  rw [List.any_eq_true]
  exact ⟨j, List.mem_range.2 hj, hx⟩
set_option maxHeartbeats 8000000 in
set_option maxRecDepth 100000 in
theorem failsLater_any (w0 : World) (bm g S I gN f K : Nat) (us uN : List Nat) (next : Nat → List Nat) (row : Nat → List Bool) (w : World) (h : GT w0 g S I us row w) (hus : us.length = S) (hS : S ≤ 4096) (hI : I ≤ 64) (hna : NextAt w bm S I next gN uN) (hnl : ∀ s, (next s).length = I) (hnx : ∀ s t, s < S → t ∈ next s → t < S) (hf : BRow w f (In.failsL next row S K) []) :
    Calls Tryz.prog 21 #[.slice (some ⟨gN, 0, none⟩) S S, .slice (some ⟨g, 0, none⟩) S S, .slice (some ⟨f, 0, none⟩) S S] w (Failed w S (In.failsL next row S (K + 1))) := by
  have HG := hide h
  have HU := hide hus
  have HNA := hide hna
  have HNL := hide hnl
  have HNX := hide hnx
  have HF := hide hf
  have mk := fun w => makeBs S (by omega) w
  obtain ⟨cS, hcS⟩ : ∃ c, c = List.replicate S (Value.bool false) := ⟨_, rfl⟩
  rw [← hcS] at mk
  obtain ⟨L, hL⟩ : ∃ L, L = In.failsL next row S (K + 1) := ⟨_, rfl⟩
  have HLL : Hid (L.length = S) := by show _ = _; rw [hL]; exact In.failsL_len ..
  have HLA : Hid (∀ s, s < S → L[s]? = some (In.fails next row (K + 1) s)) := fun s hs => by rw [hL]; exact In.failsL_at next row S (K + 1) s hs
  obtain ⟨w1, hw1⟩ : ∃ w1, w1 = w.alloc (.cells ⟨cS⟩ 4) := ⟨_, rfl⟩
  have HR1 : Hid (BRow w1 w.heap.size (Rc.inTo L 0) []) := by
    unfold BRow
    rw [Rc.inTo_zero, HLL.out, List.append_nil, List.map_replicate, hw1, hcS]; exact RowIs.new _ _ _
  have HB1 : Hid (Below w.heap.size w w1) := by rw [hw1]; exact (Below.refl _ _).alloc (Nat.le_refl _) _
  have HFD : Hid (∀ f W, BRow W f L [] → w.heap.size ≤ f → Below w.heap.size w W → Failed w S (In.failsL next row S (K + 1)) (.returned (.slice (some ⟨f, 0, none⟩) S S)) W) := fun f W h1 h2 h3 => ⟨f, rfl, hL ▸ h1, h2, h3⟩
  have hgl := h.top.lt
  clear h hus hcS hL hna hnl hnx hf
  go_enter Tryz.func21, Tryz.ntmps21
  go_wp2_with fail
  rw [← hw1]
  clear hw1
  go_loopw [17] (fun i wr => ∃ k : Nat, k ≤ S ∧ i = .int .i64 (k : Int) ∧ Hid (BRow wr w.heap.size (Rc.inTo L k) []) ∧ Hid (Below w.heap.size w wr)) (fun i _ => S - (intOf i).toNat)
  case atStart => exact ⟨0, Nat.zero_le _, rfl, HR1.out, HB1.out⟩
  case round =>
    clear HR1 HB1
    obtain ⟨s, hs, rfl, HR, HB⟩ := hrel
    by_cases hlt : s < S
    · obtain ⟨b, hb⟩ : ∃ b, us[s]? = some b := ⟨_, List.getElem?_eq_getElem (by rw [HU.out]; exact hlt)⟩
      obtain ⟨bN, hbN⟩ : ∃ b, uN[s]? = some b := ⟨_, List.getElem?_eq_getElem (by rw [HNA.out.2.1]; exact hlt)⟩
      have hgt := HG.out.below HB.out
      have r0 := hgt.top.cell s (.slice (some ⟨b, 0, none⟩) I I) (by rw [List.getElem?_append_left (by simp; rw [HU.out]; exact hlt), List.getElem?_map, hb]; rfl)
      have HRB := hide (hgt.rows s b hb).1
      have HRL := hide (hgt.len s (by rw [HU.out]; exact hlt))
      have HN2 := hide ((HNA.out.below HB.out).2.2 s bN hbN)
      have HF2 := hide (HF.out.below HB.out)
      have hki : (s : Int) < (S : Int) := by omega
      obtain ⟨wo, rfl⟩ : ∃ wo, wo = wr := ⟨_, rfl⟩
      clear hgt hb hbN
      go_wp2_with fail
      go_loopw [24] (fun i wx => ∃ j : Nat, j ≤ I ∧ i = .int .i64 (j : Int) ∧ Hid (((List.range j).any fun i => (row s).getD i false && In.fails next row K ((next s).getD i 0)) = false) ∧ Hid (wx = wo)) (fun i _ => I - (intOf i).toNat)
      case atStart => exact ⟨0, Nat.zero_le _, rfl, (rfl : _ = _), (rfl : _ = _)⟩
      case round =>
        obtain ⟨j, hj, rfl, HT, HWX⟩ := hrel
        obtain rfl := HWX.out
        clear HWX
        by_cases hjl : j < I
        · have hrj : (row s)[j]? = some ((row s).getD j false) := by rw [List.getD_eq_getElem?_getD, List.getElem?_eq_getElem (by rw [HRL.out]; exact hjl)]; rfl
          have c1 := HRB.out.cell j _ hrj
          have hnj : (next s)[j]? = some ((next s).getD j 0) := by rw [List.getD_eq_getElem?_getD, List.getElem?_eq_getElem (by rw [HNL.out]; exact hjl)]; rfl
          have n0 := HN2.out.1
          have n1 := HN2.out.2 j _ hnj
          have hto : (next s).getD j 0 < S := HNX.out s _ hlt (List.mem_of_getElem? hnj)
          have HWI := hide (iwithin_any _ f S S _ _ wr (In.failsL_len next row S K) HF2.out (In.failsL_at next row S K _ hto))
          have HSK := hide (In.later_skip next row K s j HT.out)
          have HFO := hide (In.later_found next row K s j (by rw [HRL.out]; exact hjl))
          have hji : (j : Int) < (I : Int) := by omega
          generalize (row s).getD j false = rb at *
          generalize (next s).getD j 0 = too at *
          generalize In.fails next row K too = fb at *
          clear hrj hnj
          cases rb with
          | false =>
            have HNT := hide (HSK.out false rfl)
            clear HSK HFO HWI
            go_wp2_with fail
            go_roundw
            case rel => exact ⟨j + 1, by omega, by go_num, HNT.out, by first | exact trivial | exact (rfl : _ = _)⟩
            case measure => simp [intOf]; omega
          | true =>
            go_wp2_with fail
            refine HWI.out.mono ?_
            rintro e w2 ⟨rfl, rfl⟩
            clear HWI
            cases fb with
            | false =>
              have HNT := hide (HSK.out false rfl)
              clear HSK HFO
              go_wp2_with fail
              go_roundw
              case rel => exact ⟨j + 1, by omega, by go_num, HNT.out, by first | exact trivial | exact (rfl : _ = _)⟩
              case measure => simp [intOf]; omega
            | true =>
              have hft := HFO.out rfl
              have hl := HLA.out s hlt
              rw [hft] at hl
              have c0 := HR.out.cell s _ (Rc.inTo_at _ _ (by rw [HLL.out]; exact hlt))
              have f0 := RowIs.frozen HR.out s
              have HRN : Hid (BRow (w2.setCell ⟨w.heap.size, s, none⟩ (.bool true)) w.heap.size (Rc.inTo L (s + 1)) []) := by
                have h1 := HR.out.set s true (by rw [Rc.inTo_len _ _ (by rw [HLL.out]; omega), HLL.out]; exact hlt)
                rw [Rc.inTo_set L s (by rw [HLL.out]; exact hlt) _ hl] at h1
                exact h1
              have HBN : Hid (Below w.heap.size w (w2.setCell ⟨w.heap.size, s, none⟩ (.bool true))) := HB.out.setCell (p := ⟨w.heap.size, s, none⟩) (Nat.le_refl _) _
              clear HSK HFO hft hl
              go_wp2_with fail
              exact ⟨⟨s + 1, by omega, by go_num, HRN.out, HBN.out⟩, by simp [intOf]; omega⟩
        · have hjn : j = I := by omega
          have HRN : Hid (BRow wr w.heap.size (Rc.inTo L (s + 1)) []) := by
            have h1 : In.fails next row (K + 1) s = false := by
              have h2 := HT.out
              rw [hjn, ← HRL.out] at h2
              exact h2
            have hl := HLA.out s hlt
            rw [h1] at hl
            have h3 := HR.out
            rw [Rc.inTo_skip L s hl] at h3
            exact h3
          subst hjn
          go_wp2_with fail
          exact ⟨⟨s + 1, by omega, by go_num, HRN.out, HB.out⟩, by simp [intOf]; omega⟩
    · have hkn : s = S := by omega
      have HE : Hid (BRow wr w.heap.size L []) := by
        have h1 := HR.out
        rw [hkn, ← HLL.out, Rc.inTo_all] at h1
        exact h1
      have HFI := hide (HFD.out _ wr HE.out (Nat.le_refl _) HB.out)
      subst hkn
      go_wp2_with fail
      go_ret
      exact HFI.out
end
section
open Go.RowKit
theorem IsMach.next {W : World} {bm : Nat} {p : Ld.Prg} (h : IsMach W bm p) : ∃ gN uN, NextAt W bm (Mc.total (Mc.parts p)) (2 ^ (Ld.kindL p.names 1).length) (Mc.nexts p) gN uN := by
  obtain ⟨nv, rv, g, gN, gS, lo, uN, uS, h1, ⟨⟨h2, _⟩, h3, _⟩, _⟩ := h
  refine ⟨gN, uN, h1.cells.2.2.1, h2, fun s b hs => ⟨h3.cell s b hs, fun i x hx => ?_⟩⟩
  have hr := (h3.row s b hs).1
  rw [Mc.nexts_row] at hr
  exact hr.cell i _ (by rw [List.getElem?_map, hx]; rfl)
end
section
open Go.RowKit
/-- the table and the sizes of a machine, as one reads them -/
theorem IsMach.sizes {W : World} {bm : Nat} {p : Ld.Prg} (h : IsMach W bm p) : W.cell? ⟨bm, 2, none⟩ = some (.int .i64 (Mc.total (Mc.parts p) : Int)) ∧ W.cell? ⟨bm, 3, none⟩ = some (.int .i64 ((2 ^ (Ld.kindL p.names 1).length : Nat) : Int)) := by
  obtain ⟨nv, rv, g, gN, gS, lo, uN, uS, h1, _⟩ := h
  exact ⟨h1.cells.2.1.1, h1.cells.2.1.2⟩
theorem made_few {s : ByteArray} {most : Nat} {p : Ld.Prg} (h : some p = madeP s most) : (Ld.kindL p.names 1).length ≤ 4 ∧ Mc.total (Mc.parts p) ≤ most := by
  unfold madeP at h
  cases hr : readP s with
  | none => rw [hr] at h; simp [fewP] at h
  | some p' =>
    rw [hr] at h
    simp only [fewP] at h
    split at h
    · rename_i hx; cases h; exact hx
    · cases h
end
section
open Go.RowKit
namespace Pr
/-- an expression behind the scan at a state and an input -/
def good (p : Ld.Prg) (x : Ex) (s i : Nat) : Bool := x.eval (Sc.told p.names (Mc.after1 p (Ld.kindL p.names 1).length s i).is) (Sc.told p.names (Mc.state (Mc.parts p) s).is)
def goodRow (p : Ld.Prg) (x : Ex) (I s : Nat) : List Bool := (List.range I).map (good p x s)
theorem goodRow_len (p : Ld.Prg) (x : Ex) (I s : Nat) : (goodRow p x I s).length = I := by simp [goodRow]
theorem goodRow_at (p : Ld.Prg) (x : Ex) (I s i : Nat) (h : i < I) : (goodRow p x I s)[i]? = some (good p x s i) := by simp [goodRow, h]
end Pr
/-- what a machine answers, in each world behind -/
structure MView (w : World) (bm : Nat) (p : Ld.Prg) (na : Option Addr) (nk nc : Nat) (ra : Option Addr) (rk rc : Nat) : Prop where
  prog : ∀ W, Below w.heap.size w W → W.cell? ⟨bm, 0, none⟩ = some (.slice na nk nc) ∧ W.cell? ⟨bm, 1, none⟩ = some (.slice ra rk rc) ∧ NamesAt W (.slice na nk nc) p.names
  state : ∀ W (s : Nat), Below w.heap.size w W → s < Mc.total (Mc.parts p) → Calls Tryz.prog 42 #[.pointer (some ⟨bm, 0, none⟩), .int .i64 (s : Int)] W (NewSt W (Mc.state (Mc.parts p) s))
  sees : ∀ W (s i : Nat), Below w.heap.size w W → s < Mc.total (Mc.parts p) → i < 2 ^ (Ld.kindL p.names 1).length → Calls Tryz.prog 43 #[.pointer (some ⟨bm, 0, none⟩), .int .i64 (s : Int), .int .i64 (i : Int)] W fun e w' => ∃ gb, e = .returned (.tuple #[slV gb p.names.length, .nilIface]) ∧ RowIs w' gb 4 ((Mc.after1 p (Ld.kindL p.names 1).length s i).is.map boolV) ∧ W.heap.size ≤ gb ∧ Below W.heap.size W w'
  lens : ∀ s i, (Mc.state (Mc.parts p) s).is.length = p.names.length ∧ (i < 2 ^ (Ld.kindL p.names 1).length → (Mc.after1 p (Ld.kindL p.names 1).length s i).is.length = p.names.length)
theorem IsMach.view {w : World} {bm : Nat} {p : Ld.Prg} (h : IsMach w bm p) (hck : Ld.check p = none) (hS : Mc.total (Mc.parts p) ≤ 4096) : ∃ na nk nc ra rk rc, MView w bm p na nk nc ra rk rc := by
  obtain ⟨nv, rv, g, gN, gS, lo, uN, uS, h1, ⟨⟨hN1, hN2⟩, h3, h4⟩, h5, h6⟩ := h
  obtain ⟨⟨c0, c1⟩, _⟩ := h1.cells
  have hbl : bm < w.heap.size := World.block_lt_of_cell? _ _ c0
  obtain ⟨nv', rv', he, hn, hr⟩ := h5
  simp only [Value.agg.injEq, List.toArray_eq_iff, List.cons.injEq, and_true] at he
  obtain ⟨rfl, rfl⟩ := he
  obtain ⟨na, nk, nc, rfl⟩ := slice_of hn
  obtain ⟨ra, rk, rc, rfl⟩ := slice_ofR hr
  have hls : ∀ s, (Mc.state (Mc.parts p) s).is.length = p.names.length := fun s => (Mc.stateI_len _ _).trans (Mc.parts_len p)
  have hla : ∀ s i, (Mc.after1 p (Ld.kindL p.names 1).length s i).is.length = p.names.length := fun s i => (Sc.step_bd p hck _ (bitsTo i (Ld.kindL p.names 1).length) (Mc.state_bd p hck s) (by rw [bitsTo_len])).1.li
  refine ⟨na, nk, nc, ra, rk, rc, fun W hW => ⟨(hW.cell (p := ⟨bm, 0, none⟩) hbl).trans c0, (hW.cell (p := ⟨bm, 1, none⟩) hbl).trans c1, hn.below hW⟩, fun W s hW hs => ?_, fun W s i hW hs hi => ?_, fun s i => ⟨hls s, fun _ => hla s i⟩⟩
  · exact MState_any bm p _ _ _ _ _ _ s g W (h1.below hW) (h6.below hW) hs hS hck
  · have h7 := Sees_any bm p.names.length _ _ _ _ _ g gS lo s i (Mc.val (Mc.after1 p (Ld.kindL p.names 1).length s i).is) uS _ W (h1.below hW) (h4.below hW) hN2 hs hi (Ld.check_names p hck).1 (Mc.seesRow_at _ _ _ _ _ hi)
    have e := Mc.val_back (Mc.after1 p (Ld.kindL p.names 1).length s i).is
    rw [hla s i] at e
    rw [e] at h7
    exact h7
end
end Go.Proofs.YtjlkjhmmbaljiaaGreatDoor
