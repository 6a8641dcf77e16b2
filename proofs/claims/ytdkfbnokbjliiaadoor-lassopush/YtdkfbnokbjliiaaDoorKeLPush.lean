/-
  The walk of the statement LassoPush.
-/
import Derived.Test.YtdkfbnokbjliiaaDoorLsKeep
import Derived.Test.YtdkfbnokbjliiaaDoorLsPushE
import Derived.Test.YtdkfbnokbjliiaaDoorLsText
namespace Go.Proofs.YtdkfbnokbjliiaaDoor
namespace Ls
open Go.RowKit
theorem ptrNeq (b : Nat) (w : World) : (binOp BinOp.neq 26 (.pointer (some ⟨b, 0, none⟩)) (.pointer none)).run Tryd.prog w = .ok (.bool true) w := by kernel_rfl
set_option maxHeartbeats 16000000 in
set_option maxRecDepth 100000 in
theorem lassoPush_any (A R : List (List (List UInt8))) (l : List St) (av rv lv : Value) (w : World) (hA : Rows w av A) (hR : Rows w rv R) (hla : A.length ≤ mx) (hlr : R.length ≤ mx) (hl : Steps w lv l) (hP : PT w) (hS : SG w) :
    Calls Tryd.prog 4 #[.agg #[av, rv], lv] w fun e w' => e = .returned (.bool true) ∧ Below w.heap.size w w' := by
  have q1 := errNeq
  have q2 := nilNeq
  have q3 := errEql
  have q4 := ptrNeq
  obtain ⟨wA, hwA⟩ : ∃ wA, wA = w.alloc (.cells #[av, rv] 24) := ⟨_, rfl⟩
  have HBA : Hid (Below w.heap.size w wA) := by rw [hwA]; exact newB _ _
  have ca0 : wA.cell? ⟨w.heap.size, 0, none⟩ = some av := by rw [hwA]; exact two_new0 _ _ _ _
  have ca1 : wA.cell? ⟨w.heap.size, 1, none⟩ = some rv := by rw [hwA]; exact two_new1 _ _ _ _
  have HFL := hide (fun (h : l.length ≤ 100) => Formula_any l lv wA (hl.below HBA.out) h)
  have HAA := hide (hA.below HBA.out)
  have HRA := hide (hR.below HBA.out)
  have HPA := hide (hP.below HBA.out)
  have HSA := hide (hS.below HBA.out)
  obtain ⟨aa, ac, rfl⟩ := hA.slice
  obtain ⟨ra, rc, rfl⟩ := hR.slice
  obtain ⟨la, lc, rfl⟩ := hl.slice
  have hll : l.length ≤ maxLen := by obtain ⟨_, _, _, h, _⟩ := hl; exact h
  have HWA := hide hwA
  have hla' : A.length ≤ mx := hla
  have hlr' : R.length ≤ mx := hlr
  unfold mx at hla' hlr'
  unfold maxLen at hll
  clear hwA hA hR hl hP hS
  by_cases h1 : 14 < l.length
  · have h1i : (14 : Int) < (l.length : Int) := by omega
    go_enter Tryd.func4, Tryd.ntmps4
    go_wp2_with fail
    rw [← HWA.out]
    go_ret
    exact ⟨rfl, HBA.out⟩
  have h1i : ¬ (14 : Int) < (l.length : Int) := by omega
  by_cases h3 : 30 < A.length + R.length
  · have h3i : (30 : Int) < (A.length : Int) + (R.length : Int) := by omega
    go_enter Tryd.func4, Tryd.ntmps4
    go_wp2_with fail
    rw [← HWA.out]
    go_ret
    exact ⟨rfl, HBA.out⟩
  have h3i : ¬ (30 : Int) < (A.length : Int) + (R.length : Int) := by omega
  have HF1 := hide (HFL.out (by omega))
  clear HFL
  go_enter Tryd.func4, Tryd.ntmps4
  go_wp2_with fail
  rw [← HWA.out]
  refine HF1.out.mono ?_
  rintro e w1 ⟨vf, rfl, hf1, hb1⟩
  have HB := hide hb1
  have If := hide hf1
  have HC := hide (Push_any (formula l) _ w1 hf1 (HPA.out.below hb1))
  obtain ⟨pf, rfl⟩ := hf1.ptr
  clear hf1 hb1 HF1 HWA h1 h3 h1i h3i hll hla' hlr'
  generalize formula l = x at *
  go_wp2_with fail
  refine HC.out.mono ?_
  rintro e w2 ⟨hb2, hres⟩
  have HB2 := hide (then_ HB.out hb2)
  have If2 := hide (If.out.below hb2)
  rcases hres with ⟨kk, hrx, rfl⟩ | ⟨hrx, b2, rfl, hg2⟩
  · rw [errV_some]
    clear hb2 hrx HC
    go_wp2_with fail
    refine (lassoed_any w2 (HPA.out.below HB2.out)).mono ?_
    rintro e w3 ⟨rfl, hb3⟩
    have HB3 := hide (then_ HB2.out hb3)
    clear hb3
    go_wp2_with fail
    refine (lassoed_any w3 (HPA.out.below HB3.out)).mono ?_
    rintro e w4 ⟨rfl, hb4⟩
    have HB4 := hide (then_ HBA.out (then_ HB3.out hb4))
    clear hb4
    go_wp2_with fail
    go_ret
    exact ⟨rfl, HB4.out⟩
  · have HRX := hide hrx
    have Ig2 := hide hg2
    have HWF : Hid (wf x = true) := ok_wf x 0 ((right_none x).1 hrx).1
    have HPP : Hid (push (push x false) false = push x false) := push_push x HWF.out false
    clear hb2 hrx hg2 HC
    go_wp2_with fail
    refine (lassoed_any w2 (HPA.out.below HB2.out)).mono ?_
    rintro e w3 ⟨rfl, hb3⟩
    have HB3 := hide (then_ HB2.out hb3)
    have If3 := hide (If2.out.below hb3)
    have Ig3 := hide (Ig2.out.below hb3)
    have HRG := hide (Right_any (push x false) _ w3 Ig3.out (HPA.out.below HB3.out))
    clear hb3 If2 Ig2 If
    cases hrg : right (push x false) with
    | some k4 =>
      rw [hrg, errV_some] at HRG
      clear hrg
      go_wp2_with fail
      refine HRG.out.mono ?_
      rintro e w4 ⟨rfl, hb4⟩
      have HB4 := hide (then_ HB3.out hb4)
      clear hb4 HRG
      go_wp2_with fail
      refine (lassoed_any w4 (HPA.out.below HB4.out)).mono ?_
      rintro e w5 ⟨rfl, hb5⟩
      have HB5 := hide (then_ HBA.out (then_ HB4.out hb5))
      clear hb5
      go_wp2_with fail
      go_ret
      exact ⟨rfl, HB5.out⟩
    | none =>
      have HRGN := hide hrg
      rw [hrg, errV_none] at HRG
      clear hrg
      go_wp2_with fail
      refine HRG.out.mono ?_
      rintro e w4 ⟨rfl, hb4⟩
      have HB4 := hide (then_ HB3.out hb4)
      have If4 := hide (If3.out.below hb4)
      have Ig4 := hide (Ig3.out.below hb4)
      have d0 := kept HB4.out ca0
      have d1 := kept HB4.out ca1
      have HH1 := hide (Holds_any A R x _ _ _ w4 (HAA.out.below HB4.out) (HRA.out.below HB4.out) hla hlr If4.out (HPA.out.below HB4.out))
      clear hb4 HRG If3 Ig3
      go_wp2_with fail
      refine HH1.out.mono ?_
      rintro e w5 ⟨hb5, hres⟩
      have HB5 := hide (then_ HB4.out hb5)
      have Ig5 := hide (Ig4.out.below hb5)
      have e0 := kept HB5.out ca0
      have e1 := kept HB5.out ca1
      have HH2 := hide (Holds_any A R (push x false) _ _ _ w5 (HAA.out.below HB5.out) (HRA.out.below HB5.out) hla hlr Ig5.out (HPA.out.below HB5.out))
      rcases hres with ⟨k5, hk5, rfl⟩ | ⟨hk5, g5, rfl, hr5⟩
      · have HCE : Hid (∃ k, wrong2 A R (push x false) = some k) := by
          unfold wrong2 at hk5
          cases hck : check A R with
          | none =>
            rw [hck] at hk5
            have h : right x = some k5 := hk5
            rw [HRX.out] at h
            cases h
          | some k => exact ⟨k, by unfold wrong2; rw [hck]; rfl⟩
        have HHX : Hid (∀ e w', Held A R (push x false) w5 e w' → Below w5.heap.size w5 w' ∧ ∃ k, e = .returned (.tuple #[.slice none 0 0, .iface 58 (.int .i64 ((k : Nat) : Int))])) := fun e w' h => by
          obtain ⟨hb, h⟩ := h
          refine ⟨hb, ?_⟩
          obtain ⟨k, hk⟩ := HCE.out
          rcases h with ⟨k', _, h2⟩ | ⟨h1, _⟩
          · exact ⟨k', h2⟩
          · rw [hk] at h1; cases h1
        rw [errV_some]
        clear hk5 hb5 d0 d1 HH1
        go_wp2_with fail
        refine HH2.out.mono ?_
        rintro e w6 hres
        obtain ⟨hb6, k6, rfl⟩ := HHX.out _ _ hres
        have HB6 := hide (then_ HBA.out (then_ HB5.out hb6))
        clear hres hb6 HH2
        go_wp2_with fail
        go_ret
        exact ⟨rfl, HB6.out⟩
      · have hck : check A R = none := by
          unfold wrong2 at hk5
          cases hck : check A R with
          | none => rfl
          | some k => rw [hck] at hk5; cases hk5
        obtain ⟨hr0, h60⟩ := check_none hck
        have HLN : Hid ((A ++ R).length ≤ 60) := by rw [List.length_append]; exact h60
        have HSM : Hid (∀ t, sem (A ++ R) A.length (push x false) t = sem (A ++ R) A.length x t) := fun t => by rw [sem_push x HWF.out false]; simp
        have HHX : Hid (∀ e w', Held A R (push x false) w5 e w' → Below w5.heap.size w5 w' ∧ ∃ g, e = .returned (.tuple #[.slice (some ⟨g, 0, none⟩) (A ++ R).length (A ++ R).length, .nilIface]) ∧ BRow w' g (A ++ R).length (sem (A ++ R) A.length x)) := fun e w' h => by
          obtain ⟨hb, h⟩ := h
          refine ⟨hb, ?_⟩
          rcases h with ⟨k', h1, _⟩ | ⟨_, g, h2, h3⟩
          · have : wrong2 A R (push x false) = none := by unfold wrong2; rw [hck]; exact HRGN.out
            rw [this] at h1; cases h1
          · exact ⟨g, h2, BRow.congr h3 fun t _ => HSM.out t⟩
        have HR5 := hide hr5
        clear hk5 hb5 d0 d1 HH1 hr5 hck hr0 h60 HSM
        generalize sem (A ++ R) A.length x = sm at *
        generalize (A ++ R).length = n at *
        go_wp2_with fail
        refine HH2.out.mono ?_
        rintro e w6 hres
        obtain ⟨hb6, g6, rfl, hr6⟩ := HHX.out _ _ hres
        have HB6 := hide (then_ HB5.out hb6)
        have HR56 := hide (HR5.out.below hb6)
        have HR6 := hide hr6
        have Ig6 := hide (Ig5.out.below hb6)
        have HPU := hide (Push_any (push x false) _ w6 Ig6.out (HPA.out.below HB6.out))
        clear hres hb6 hr6 HH2 e0 e1
        go_wp2_with fail
        refine HPU.out.mono ?_
        rintro e w7 ⟨hb7, hres⟩
        have HB7 := hide (then_ HB6.out hb7)
        have Ig7 := hide (Ig6.out.below hb7)
        have HR57 := hide (HR56.out.below hb7)
        have HR67 := hide (HR6.out.below hb7)
        rcases hres with ⟨k7, hk7, _⟩ | ⟨_, b7, rfl, hh7⟩
        · rw [HRGN.out] at hk7; cases hk7
        rw [HPP.out] at hh7
        have Ih7 := hide hh7
        have hln := HLN.out
        have HSB := hide (sameB_any n (by omega) sm g5 g6 w7 HR57.out HR67.out)
        clear hb7 hh7 HPU
        go_wp2_with fail
        refine HSB.out.mono ?_
        rintro e w8 ⟨rfl, hb8⟩
        have HB8 := hide (then_ HB7.out hb8)
        have HT8 := hide (Text_any (push x false) _ w8 (Ih7.out.below hb8) (HPA.out.below HB8.out) (HSA.out.below HB8.out))
        have Ig8 := hide (Ig7.out.below hb8)
        have HT9 := hide (fun W (hW : Below w8.heap.size w8 W) => Text_any (push x false) _ W (Ig8.out.below hW) (HPA.out.below (then_ HB8.out hW)) (HSA.out.below (then_ HB8.out hW)))
        clear hb8 HSB
        generalize textOf (push x false) = tx at *
        go_wp2_with fail
        refine HT8.out.mono ?_
        rintro e w9 ⟨rfl, hb9⟩
        have HB9 := hide (then_ HB8.out hb9)
        have HC9 := hide (HT9.out w9 hb9)
        clear hb9 HT8 HT9
        go_wp2_with fail
        refine HC9.out.mono ?_
        rintro e w10 ⟨rfl, hb10⟩
        have HB10 := hide (then_ HBA.out (then_ HB9.out hb10))
        clear hb10 HC9
        go_wp2_with fail
        go_ret
        exact ⟨by simp, HB10.out⟩
end Ls
end Go.Proofs.YtdkfbnokbjliiaaDoor
