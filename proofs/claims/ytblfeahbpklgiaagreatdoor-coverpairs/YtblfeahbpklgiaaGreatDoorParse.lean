/-
  The walk of Parse: what package expr reads of a text is what the plain function 'parse' says.
-/
import Derived.Test.YtblfeahbpklgiaaGreatDoorRdParse
namespace Go.Proofs.YtblfeahbpklgiaaGreatDoor
open Go.RowKit
/-- What Parse comes to in memory: an error, or an expression; nothing that was there has turned. -/
def Parsed (w : World) (r : (Nat × Option Nat) ⊕ Ex) (e : Ending) (w' : World) : Prop :=
  Below w.heap.size w w' ∧
  match r with
  | .inl (err, none) => e = .returned (.tuple #[.nilIface, .iface 33 (.int .i64 (err : Int))])
  | .inl (err, some p) => ∃ v, e = .returned (.tuple #[.nilIface, v]) ∧ IsErr w.heap.size w' v err p
  | .inr x => ∃ v, e = .returned (.tuple #[v, .nilIface]) ∧ IsEx (fun g => w.heap.size ≤ g) w' x v
theorem parse_long (l : List UInt8) (h : 2000 < l.length) : Ex.parse l = .inl (4, none) := by unfold Ex.parse; rw [if_pos h]
theorem parse_err (l : List UInt8) (h : ¬ 2000 < l.length) (err p : Nat) (he : Ex.wholeP l (Ex.pieceP l 20) 0 = .inl (err, p)) : Ex.parse l = .inl (err, some p) := by unfold Ex.parse; rw [if_neg h, he]
theorem parse_more (l : List UInt8) (h : ¬ 2000 < l.length) (x : Ex) (m : Nat) (he : Ex.wholeP l (Ex.pieceP l 20) 0 = .inr (x, m)) (hm : Ex.skip l m < l.length) : Ex.parse l = .inl (3, some (Ex.skip l m)) := by
  unfold Ex.parse; rw [if_neg h, he]; simp only [if_pos hm]
theorem parse_fine (l : List UInt8) (h : ¬ 2000 < l.length) (x : Ex) (m : Nat) (he : Ex.wholeP l (Ex.pieceP l 20) 0 = .inr (x, m)) (hm : ¬ Ex.skip l m < l.length) : Ex.parse l = .inr x := by
  unfold Ex.parse; rw [if_neg h, he]; simp only [if_neg hm]
set_option maxHeartbeats 1000000 in
theorem Parse_any (s : ByteArray) (w : World) (hs : s.size ≤ maxLen) :
    Calls Tryz.prog 11 #[.string s] w (Parsed w (Ex.parse s.data.toList)) := by
  unfold maxLen at hs
  have HL : Hid (s.data.toList.length = s.size) := by show _ = _; simp
  by_cases h2 : 2000 < s.size
  · have h2' : (2000 : Int) < (s.size : Int) := by omega
    have HF : Hid (Ex.parse s.data.toList = .inl (4, none)) := parse_long _ (by rw [HL.out]; exact h2)
    clear h2
    go_enter Tryz.func11, Tryz.ntmps11
    go_wp2_with fail
    go_ret2
    rw [HF.out]
    exact ⟨Below.refl _ _, rfl⟩
  · have h2' : ¬ (2000 : Int) < (s.size : Int) := by omega
    have hs2 : s.size ≤ 2000 := by omega
    have HN : Hid (¬ 2000 < s.data.toList.length) := by rw [HL.out]; exact h2
    have hA := Ex.pieceP_adv s.data.toList 20
    have hPart := part_any s 0 _ hA (piece_any s hs2 20 0 rfl) hs2
    have hW := whole_any s 0 _ (Ex.partP_adv s.data.toList _ hA) hPart hs2
    have hWA := Ex.wholeP_adv s.data.toList _ hA
    have hrd : Rd w.heap.size s 0 0 (w.alloc (.cells #[.string s, .int .i64 0, .int .i64 0] 67)) := by
      constructor <;> simp [go_sem]
    have HC := hide (hW w.heap.size 0 _ hrd (Nat.zero_le _))
    have HWA : Hid (∀ x m, Ex.wholeP s.data.toList (Ex.pieceP s.data.toList 20) 0 = .inr (x, m) → m ≤ s.size) := fun x m hx => by have := (hWA 0 x m (Nat.zero_le _) hx).2; rw [HL.out] at this; exact this
    have HB : Hid (∀ w', Keep w.heap.size (w.alloc (.cells #[.string s, .int .i64 0, .int .i64 0] 67)) w' → Below w.heap.size w w') := fun w' hk => ((Below.refl _ w).alloc (Nat.le_refl _) _).trans (hk.below (by simp) (Nat.le_refl _))
    obtain ⟨T, hT⟩ : ∃ T, T = Ex.wholeP s.data.toList (Ex.pieceP s.data.toList 20) 0 := ⟨_, rfl⟩
    have HT := hide hT
    change Hid (Calls _ _ _ _ (Read _ _ _ _ (Ex.wholeP s.data.toList (Ex.pieceP s.data.toList 20) 0))) at HC
    rw [← hT] at HC HWA
    clear hT hA hPart hW hWA hrd h2
    go_enter Tryz.func11, Tryz.ntmps11
    go_wp2_with fail
    refine HC.out.mono ?_
    intro e w1 hq
    clear HC
    match T, hq, HT, HWA with
    | .inl (err, p), hq, HT, _ =>
      obtain ⟨hk, v, i', rfl, herr, hrd⟩ := hq
      have HF := hide (parse_err _ HN.out err p HT.out.symm)
      have HE := hide herr
      have HK := hide hk
      obtain ⟨a, ha, hv, hc0, hc1⟩ := herr
      clear hrd hk ha hc0 hc1
      rw [hv] at HE
      rw [hv]
      clear hv
      go_wp2_with fail
      go_ret2
      rw [HF.out]
      exact ⟨HB.out _ HK.out, _, rfl, HE.out⟩
    | .inr (x, m), hq, HT, HWA =>
      obtain ⟨hk, u, rfl, hx, hrd⟩ := hq
      have hm := HWA.out x m rfl
      have HX := hide hx
      have HK := hide hk
      have HS := hide (sign_any _ s m 0 w1 hrd hm hs2)
      have HMORE := hide (parse_more _ HN.out x m HT.out.symm)
      have HFINE := hide (parse_fine _ HN.out x m HT.out.symm)
      have HIFF := hide (Ex.sg_skip s.data.toList m (by rw [HL.out]; exact hm))
      have hle := Ex.skip_le s.data.toList m (by rw [HL.out]; exact hm)
      rw [HL.out] at HMORE HFINE HIFF hle
      obtain ⟨tu, yu, hu⟩ := IsEx.iface x u hx
      clear hrd hk hx HWA
      subst hu
      generalize Ex.skip s.data.toList m = q at *
      generalize Ex.sg s.data.toList q = c at *
      go_wp2_with fail
      refine HS.out.mono ?_
      rintro e w2 ⟨rfl, hr2, hk2⟩
      have HK2 := hide hk2
      have HR2 := hide hr2
      clear hk2 HS hr2
      by_cases hc : c = 32
      · have e1 : ((c : Int) != 32) = false := by rw [hc]; rfl
        have hq := HIFF.out.1 hc
        have HF := hide (HFINE.out (by omega))
        clear hc hq HMORE HFINE HIFF
        go_wp2_with fail
        go_ret2
        rw [HF.out]
        refine ⟨HB.out _ (HK.out.trans HK2.out), _, rfl, IsEx.stay (Stay.keep HK2.out fun g hg e => ?_) (fun g hg => ?_) x _ HX.out⟩
        · simp at hg; omega
        · simp at hg; omega
      · have e1 : ((c : Int) != 32) = true := by simp; omega
        have hq : q < s.size := by
          by_cases hq : q < s.size
          · exact hq
          · exact absurd (HIFF.out.2 (by omega)) hc
        have HF := hide (HMORE.out hq)
        clear hc HMORE HFINE HIFF
        go_wp2_with fail
        refine (wrong_any _ s q 0 3 w2 HR2.out).mono ?_
        rintro e w3 ⟨rfl, rfl⟩
        go_wp2_with fail
        go_ret2
        rw [HF.out]
        refine ⟨(HB.out _ (HK.out.trans HK2.out)).alloc ?_ _, _, rfl, ⟨w2.heap.size, by have := HR2.out.lt; omega, rfl, ?_, ?_⟩⟩
        · have := (HK.out.trans HK2.out).size; simp at this; omega
        · simp [World.cell?_alloc_at]
        · simp [World.cell?_alloc_at]
end Go.Proofs.YtblfeahbpklgiaaGreatDoor
