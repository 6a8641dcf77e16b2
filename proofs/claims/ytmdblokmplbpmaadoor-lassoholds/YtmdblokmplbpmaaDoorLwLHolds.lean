/-
  The walk of the statement LassoHolds.
-/
import Derived.Test.YtmdblokmplbpmaaDoorLyForm
import Derived.Test.YtmdblokmplbpmaaDoorLyNamed
import Derived.Test.YtmdblokmplbpmaaDoorLyAt
import Derived.Test.YtmdblokmplbpmaaDoorLyWord
import Derived.Test.YtmdblokmplbpmaaDoorLsBare
namespace Go.Proofs.YtmdblokmplbpmaaDoor
namespace Ls
open Go.RowKit ErAs
theorem no_empty {A R : List (List (List UInt8))} (h : check A R = none) : ∀ r, r ∈ A ++ R → ¬ [] ∈ r := by
  intro r hr hm
  unfold check at h
  by_cases h1 : R.length < 1 ∨ 60 < A.length + R.length
  · rw [if_pos h1] at h; cases h
  · rw [if_neg h1, ← List.any_append, if_pos] at h
    · cases h
    · rw [List.any_eq_true]
      refine ⟨r, hr, ?_⟩
      unfold badRow
      rw [List.any_eq_true]
      exact ⟨[], hm, by decide⟩
theorem check_cases (A R : List (List (List UInt8))) : check A R = none ∨ check A R = some 4 ∨ check A R = some 5 := by
  unfold check
  split
  · exact .inr (.inl rfl)
  · split
    · exact .inr (.inr rfl)
    · exact .inl rfl
theorem bareS (r : Option Nat) (e : Nat) (h : num r = e) (w : World) (hg : Door w) : Calls Tryd.prog 7 #[errV r, .int .i64 (e : Int)] w fun x w' => x = .returned (.bool true) ∧ Below w.heap.size w w' := by
  have hb := bare_any r e w hg
  rw [decide_eq_true h] at hb
  exact hb
/-- what stands behind the first steps of the statement -/
structure LH (A R : List (List (List UInt8))) (av rv : Value) (w W : World) : Prop where
  B : Below w.heap.size w W
  a : W.cell? ⟨w.heap.size, 0, none⟩ = some av
  r : W.cell? ⟨w.heap.size, 1, none⟩ = some rv
theorem LH.below {A R : List (List (List UInt8))} {av rv : Value} {w W W' : World} (h : LH A R av rv w W) (hb : Below W.heap.size W W') : LH A R av rv w W' := ⟨then_ h.B hb, kept hb h.a, kept hb h.r⟩
set_option maxHeartbeats 16000000 in
set_option maxRecDepth 100000 in
theorem lassoHolds_any (A R : List (List (List UInt8))) (l : List St) (av rv sv : Value) (w : World) (hA : Rows w av A) (hR : Rows w rv R) (hla : A.length ≤ mx) (hlr : R.length ≤ mx) (hs : Steps w sv l) (hP : PT w) (hD : Door w) :
    Calls Tryd.prog 3 #[.agg #[av, rv], sv] w fun e w' => e = .returned (.bool true) ∧ Below w.heap.size w w' := by
  obtain ⟨wA, hwA⟩ : ∃ wA, wA = w.alloc (.cells #[av, rv] 24) := ⟨_, rfl⟩
  have r1 : RowIs wA w.heap.size 24 [av, rv] := by rw [hwA]; exact RowIs.new _ _ _
  have H0 : Hid (LH A R av rv w wA) := ⟨by rw [hwA]; exact newB _ _, r1.cell 0 _ rfl, r1.cell 1 _ rfl⟩
  have HC1 := hide (formula_any l sv wA (hs.below H0.out.B))
  have HFL := hide (fun (h : l.length ≤ 100) W (hW : Below w.heap.size w W) => Formula_any l sv W (hs.below hW) h)
  have HPA : Hid (∀ W, Below w.heap.size w W → PT W) := fun W hW => hP.below hW
  have HDA : Hid (∀ W, Below w.heap.size w W → Door W) := fun W hW => door_below hD hW
  have HAA : Hid (∀ W, Below w.heap.size w W → Rows W av A) := fun W hW => hA.below hW
  have HRR : Hid (∀ W, Below w.heap.size w W → Rows W rv R) := fun W hW => hR.below hW
  have HWN := hide (wn_formula l)
  have HLA := hide hla
  have HLR := hide hlr
  unfold mx at hla hlr
  obtain ⟨sa, sc, rfl⟩ := hs.slice
  obtain ⟨aa, ac, rfl⟩ := hA.slice
  obtain ⟨ra, rc, rfl⟩ := hR.slice
  have HWA := hide hwA
  have ea := H0.out.a
  have er := H0.out.r
  clear hs hP hD hA hR hwA r1
  go_enter Tryd.func3, Tryd.ntmps3
  go_upto_region 1 with fail
  rw [← HWA.out]
  go_wp2_with fail
  refine HC1.out.mono ?_
  rintro e w1 ⟨hb1, hres⟩
  have H1 := hide (H0.out.below hb1)
  clear hb1 HC1 ea er
  rcases hres with ⟨h40, rfl⟩ | ⟨h40, pf, rfl, hf⟩
  · go_wp2_with fail
    go_ret
    exact ⟨rfl, H1.out.B⟩
  have IR1 := hide hf
  have HF1 := hide (HFL.out (by omega))
  clear hf HFL h40
  generalize formula l = x at *
  have fa := H1.out.a
  have fr := H1.out.r
  by_cases hd : depth x ≤ 20
  case neg =>
    have hdd : decide (depth x ≤ 20) = false := decide_eq_false hd
    rw [hdd]
    clear hd hdd
    go_wp2_with fail
    go_ret
    exact ⟨rfl, H1.out.B⟩
  have hdd : decide (depth x ≤ 20) = true := decide_eq_true hd
  rw [hdd]
  by_cases h14 : 14 < cap (size x)
  · have h2i : (14 : Int) < (cap (size x) : Int) := by omega
    clear hd hdd
    go_wp2_with fail
    go_ret
    exact ⟨rfl, H1.out.B⟩
  have h2i : ¬ (14 : Int) < (cap (size x) : Int) := by omega
  have hcs : cap (size x) = size x := by unfold cap at h14 ⊢; omega
  rw [hcs] at h2i ⊢
  have HS14 : Hid (size x ≤ 14) := by show _ ≤ _; omega
  have HRL := hide (right_law x HWN.out hd)
  obtain ⟨sz, hsz⟩ : ∃ sz, sz = size x := ⟨_, rfl⟩
  rw [← hsz] at h2i ⊢
  clear hd hdd h14 hcs hsz
  by_cases h70 : 70 < A.length + R.length
  · have h70i : (70 : Int) < (A.length : Int) + (R.length : Int) := by omega
    go_wp2_with fail
    go_ret
    exact ⟨rfl, H1.out.B⟩
  have h70i : ¬ (70 : Int) < (A.length : Int) + (R.length : Int) := by omega
  obtain ⟨wX, hwX⟩ : ∃ wX, wX = w1.alloc (.cells #[.slice aa A.length ac, .slice ra R.length rc] 29) := ⟨_, rfl⟩
  have HBX : Hid (Below w1.heap.size w1 wX) := by rw [hwX]; exact newB _ _
  have HX := hide (H1.out.below HBX.out)
  have r8 : RowIs wX w1.heap.size 29 [.slice aa A.length ac, .slice ra R.length rc] := by rw [hwX]; exact RowIs.new _ _ _
  have HR8 := hide r8
  have x0 := r8.cell 0 _ rfl
  have x1 := r8.cell 1 _ rfl
  have HWX := hide hwX
  have IRX := hide (IR1.out.below HBX.out)
  have HWC := hide (rword_any A R _ _ wX (HAA.out _ HX.out.B) (HRR.out _ HX.out.B) HLA.out HLR.out)
  clear hwX r8 IR1 HBX
  go_upto_region 5 with fail
  rw [← HWX.out]
  go_wp2_with fail
  refine HWC.out.mono ?_
  rintro e w2 ⟨rfl, hb2⟩
  have H2 := hide (HX.out.below hb2)
  have HR82 := hide (HR8.out.below hb2)
  have IR2 := hide (IRX.out.below hb2)
  clear hb2 HWC x0 x1 HR8 IRX
  have ga := H2.out.a
  have gr := H2.out.r
  have HCK := hide (Check_any A R _ _ w2 (HAA.out _ H2.out.B) (HRR.out _ H2.out.B) HLA.out HLR.out)
  obtain ⟨kc, hkc⟩ : ∃ kc, kc = (check A R).getD 0 := ⟨_, rfl⟩
  have HKC := hide hkc
  rw [← hkc]
  clear hkc
  go_wp2_with fail
  refine HCK.out.mono ?_
  rintro e w3 ⟨rfl, hb3⟩
  have H3 := hide (H2.out.below hb3)
  have HR83 := hide (HR82.out.below hb3)
  have IR3 := hide (IR2.out.below hb3)
  clear hb3 HCK ga gr HR82 IR2
  go_wp2_with fail
  refine (bareS (check A R) kc HKC.out.symm w3 (HDA.out _ H3.out.B)).mono ?_
  rintro e w4 ⟨rfl, hb4⟩
  have H4 := hide (H3.out.below hb4)
  have HR84 := hide (HR83.out.below hb4)
  have IR4 := hide (IR3.out.below hb4)
  clear hb4 HR83 IR3
  have hkcs : (check A R = none ∧ kc = 0) ∨ (check A R = some 4 ∧ kc = 4) ∨ (check A R = some 5 ∧ kc = 5) := by
    have h := HKC.out
    rcases check_cases A R with h1 | h1 | h1
    · rw [h1] at h; exact .inl ⟨h1, h⟩
    · rw [h1] at h; exact .inr (.inl ⟨h1, h⟩)
    · rw [h1] at h; exact .inr (.inr ⟨h1, h⟩)
  clear HKC
  rcases hkcs with ⟨hck, rfl⟩ | ⟨hck, rfl⟩ | ⟨hck, rfl⟩
  · have HCN := hide hck
    have HNM := hide (named_any x HWN.out _ w4 IR4.out)
    obtain ⟨nx, hnx⟩ : ∃ nx, nx = nmd x := ⟨_, rfl⟩
    have HNX := hide hnx
    rw [← hnx] at HNM HRL
    clear hnx hck
    go_wp2_with fail
    refine HNM.out.mono ?_
    rintro e w5 ⟨rfl, hb5⟩
    have H5 := hide (H4.out.below hb5)
    have HR85 := hide (HR84.out.below hb5)
    have IR5 := hide (IR4.out.below hb5)
    clear hb5 HNM HR84 IR4
    cases nx with
    | false =>
      have HW2 : Hid (wrong2 A R x = some 5) := by
        show _ = _
        unfold wrong2
        rw [HCN.out, if_neg (by simp), HRL.out, if_pos rfl]
      have ka := H5.out.a
      have kr := H5.out.r
      have HHE : Hid (∀ (V : World) (v : Value), Below w5.drew.heap.size w5.drew V → IsF (fun _ => True) V x v → Calls Tryd.prog 10 #[.agg #[.slice aa A.length ac, .slice ra R.length rc], v] V fun e w' => e = .returned (.tuple #[.slice none 0 0, errV (some 5)]) ∧ Below V.heap.size V w') := fun V v hV hx => by
        have hl := (H5.out.below (drewB w5)).below hV
        refine (Holds_any A R x _ _ v V (HAA.out _ hl.B) (HRR.out _ hl.B) HLA.out HLR.out hx (HPA.out _ hl.B)).mono fun e w' h => ?_
        obtain ⟨hb, h⟩ := h
        rcases h with ⟨k', hk', he⟩ | ⟨hn, _⟩
        · rw [HW2.out] at hk'; cases hk'; exact ⟨he, hb⟩
        · rw [HW2.out] at hn; cases hn
      have HFX := hide (HF1.out w5.drew (H5.out.below (drewB w5)).B)
      have HKL := hide (fun V (hV : Below w5.drew.heap.size w5.drew V) => (H5.out.below (drewB w5)).below hV)
      go_wp2_with fail
      go_region_held3 (fun W => W.cell? ⟨w.heap.size, 0, none⟩ = some (.slice aa A.length ac) ∧ W.cell? ⟨w.heap.size, 1, none⟩ = some (.slice ra R.length rc)) ((first
        | exact ⟨(HKL.out _ (Below.refl _ _)).a, (HKL.out _ (Below.refl _ _)).r⟩ | exact ⟨(HKL.out _ HB1.out).a, (HKL.out _ HB1.out).r⟩ | exact ⟨(HKL.out _ HB2.out).a, (HKL.out _ HB2.out).r⟩)) ((first
        | (go_at_call 11; (with_reducible refine HFX.out.mono ?_); rintro e v1 ⟨vg, rfl, hg, hb1⟩; have HB1 := hide hb1; have HH1 := hide (HHE.out v1 vg hb1 hg); obtain ⟨pg, rfl⟩ := hg.ptr; clear hb1 hg)
        | (go_at_call 10; (with_reducible refine HH1.out.mono ?_); rintro e v2 ⟨rfl, hb2⟩; have HB2 := hide (then_ HB1.out hb2); clear hb2)))
      all_goals
        go_wp2_with fail
        refine (bareS (some 5) 5 rfl v2 (HDA.out _ (HKL.out _ HB2.out).B)).mono ?_
        rintro e v3 ⟨rfl, hb3⟩
        have HB3 := hide (then_ HB2.out hb3)
        clear hb3
        go_wp2_with fail
        go_ret
        exact ⟨rfl, (HKL.out _ HB3.out).B⟩
    | true =>
      have HW2 : Hid (wrong2 A R x = none) := by
        show _ = _
        unfold wrong2
        have h14 := HS14.out
        rw [HCN.out, if_neg (by simp), HRL.out, if_neg (by decide), if_neg (by omega)]
      obtain ⟨N, hN⟩ : ∃ N, N = A.length + R.length := ⟨_, rfl⟩
      have hNI : (N : Int) = (A.length : Int) + (R.length : Int) := by omega
      have HNB : Hid (((N : Int) != (A.length : Int) + (R.length : Int)) = false) := by show _ = _; rw [hNI]; simp
      have HND : Hid (N = A.length + R.length) := hN
      obtain ⟨hr0, h60⟩ := check_none HCN.out
      have HH60 := hide h60
      have HR0 := hide hr0
      clear hN hNI hr0 h60
      have ka := H5.out.a
      have kr := H5.out.r
      have HHE : Hid (∀ (V : World) (v : Value), Below w5.drew.heap.size w5.drew V → IsF (fun _ => True) V x v → Calls Tryd.prog 10 #[.agg #[.slice aa A.length ac, .slice ra R.length rc], v] V fun e w' => ∃ g, e = .returned (.tuple #[.slice (some ⟨g, 0, none⟩) N N, .nilIface]) ∧ BRow w' g N (sem (A ++ R) A.length x) ∧ Below V.heap.size V w') := fun V v hV hx => by
        have hl := (H5.out.below (drewB w5)).below hV
        refine (Holds_any A R x _ _ v V (HAA.out _ hl.B) (HRR.out _ hl.B) HLA.out HLR.out hx (HPA.out _ hl.B)).mono fun e w' h => ?_
        obtain ⟨hb, h⟩ := h
        rcases h with ⟨k', hk', _⟩ | ⟨_, g, he, hr⟩
        · rw [HW2.out] at hk'; cases hk'
        · rw [len_app, ← HND.out] at he hr
          exact ⟨g, he, hr, hb⟩
      have HFX := hide (HF1.out w5.drew (H5.out.below (drewB w5)).B)
      have HKL := hide (fun V (hV : Below w5.drew.heap.size w5.drew V) => (H5.out.below (drewB w5)).below hV)
      go_wp2_with fail
      go_region_held3 (fun W => W.cell? ⟨w.heap.size, 0, none⟩ = some (.slice aa A.length ac) ∧ W.cell? ⟨w.heap.size, 1, none⟩ = some (.slice ra R.length rc)) ((first
        | exact ⟨(HKL.out _ (Below.refl _ _)).a, (HKL.out _ (Below.refl _ _)).r⟩ | exact ⟨(HKL.out _ HB1.out).a, (HKL.out _ HB1.out).r⟩ | exact ⟨(HKL.out _ HB2.out).a, (HKL.out _ HB2.out).r⟩)) ((first
        | (go_at_call 11; (with_reducible refine HFX.out.mono ?_); rintro e v1 ⟨vg, rfl, hg, hb1⟩; have HB1 := hide hb1; have HH1 := hide (HHE.out v1 vg hb1 hg); obtain ⟨pg, rfl⟩ := hg.ptr; clear hb1 hg)
        | (go_at_call 10; (with_reducible refine HH1.out.mono ?_); rintro e v2 ⟨gg, rfl, hrg, hb2⟩; have HB2 := hide (then_ HB1.out hb2); have HRG := hide hrg; clear hb2 hrg)))
      all_goals
        have H6 := hide (HKL.out _ HB2.out)
        have HR86 := hide ((HR85.out.below (drewB w5)).below HB2.out)
        have IR6 := hide ((IR5.out.below (drewB w5)).below HB2.out)
        have la := H6.out.a
        have lr := H6.out.r
        clear ka kr HHE HFX HKL HR85 IR5 HH1 HB1 HB2
        by_cases h8 : 8 < N
        · have h8i : (8 : Int) < (A.length : Int) + (R.length : Int) := by have := HND.out; omega
          go_wp2_with fail
          go_ret
          exact ⟨rfl, H6.out.B⟩
        have h8i : ¬ (8 : Int) < (A.length : Int) + (R.length : Int) := by have := HND.out; omega
        have hnb := HNB.out
        go_wp2_with fail
        go_loopw [13] (fun iv wr => ∃ i : Nat, i ≤ N ∧ iv = .int .i64 (i : Int) ∧ Hid (Below v2.heap.size v2 wr)) (fun iv _ => N - (intOf iv).toNat)
        case atStart => exact ⟨0, Nat.zero_le _, rfl, Below.refl _ _⟩
        case round =>
          obtain ⟨i, hi, rfl, HB⟩ := hrel
          have H7 := hide (H6.out.below HB.out)
          by_cases hlt : i < N
          · have hii : (i : Int) < (A.length : Int) + (R.length : Int) := by have := HND.out; omega
            have hiN : (i : Int) < (N : Int) := by omega
            have HAT := hide (rat_any x (wn_wf x HWN.out) A R _ _ _ wr.drew i (HAA.out _ (H7.out.below (drewB wr)).B) (HRR.out _ (H7.out.below (drewB wr)).B) HR0.out HH60.out (no_empty HCN.out) ((IR6.out.below HB.out).below (drewB wr)) (by have := HND.out; omega))
            have HKC : Hid (∀ W, Below v2.heap.size v2 W → W.cell? ⟨w1.heap.size, 0, none⟩ = some (.slice aa A.length ac) ∧ W.cell? ⟨w1.heap.size, 1, none⟩ = some (.slice ra R.length rc) ∧ W.cell? ⟨gg, i, none⟩ = some (.bool (sem (A ++ R) A.length x i))) := fun W hW => ⟨(HR86.out.below hW).cell 0 _ rfl, (HR86.out.below hW).cell 1 _ rfl, (HRG.out.below hW).cell i hlt⟩
            generalize sem (A ++ R) A.length x i = bi at *
            go_wp2_with fail
            go_region_held3 (fun W => W.cell? ⟨w1.heap.size, 0, none⟩ = some (.slice aa A.length ac) ∧ W.cell? ⟨w1.heap.size, 1, none⟩ = some (.slice ra R.length rc) ∧ W.cell? ⟨gg, i, none⟩ = some (.bool bi)) ((first
              | exact HKC.out _ (then_ HB.out (drewB _)) | exact HKC.out _ HB9.out)) ((first
              | (go_at_call 12; (with_reducible refine HAT.out.mono ?_); rintro e v9 ⟨rfl, hb9⟩; have HB9 := hide (then_ (then_ HB.out (drewB wr)) hb9); clear hb9)))
            all_goals
              cases bi
              all_goals
                go_wp2_with fail
                go_roundw
                case rel => exact ⟨i + 1, by omega, by go_num, HB9.out⟩
                case measure => simp [intOf]; omega
          · have hii : ¬ (i : Int) < (A.length : Int) + (R.length : Int) := by have := HND.out; omega
            go_wp2_with fail
            go_ret
            exact ⟨rfl, H7.out.B⟩
  · have HW2 : Hid (wrong2 A R x = some 4) := by
      show _ = _
      unfold wrong2
      rw [hck]; rfl
    clear hck
    have ka := H4.out.a
    have kr := H4.out.r
    have HHE : Hid (∀ (V : World) (v : Value), Below w4.drew.heap.size w4.drew V → IsF (fun _ => True) V x v → Calls Tryd.prog 10 #[.agg #[.slice aa A.length ac, .slice ra R.length rc], v] V fun e w' => e = .returned (.tuple #[.slice none 0 0, errV (some 4)]) ∧ Below V.heap.size V w') := fun V v hV hx => by
      have hl := (H4.out.below (drewB w4)).below hV
      refine (Holds_any A R x _ _ v V (HAA.out _ hl.B) (HRR.out _ hl.B) HLA.out HLR.out hx (HPA.out _ hl.B)).mono fun e w' h => ?_
      obtain ⟨hb, h⟩ := h
      rcases h with ⟨k', hk', he⟩ | ⟨hn, _⟩
      · rw [HW2.out] at hk'; cases hk'; exact ⟨he, hb⟩
      · rw [HW2.out] at hn; cases hn
    have HFX := hide (HF1.out w4.drew (H4.out.below (drewB w4)).B)
    have HKL := hide (fun V (hV : Below w4.drew.heap.size w4.drew V) => (H4.out.below (drewB w4)).below hV)
    go_wp2_with fail
    go_region_held3 (fun W => W.cell? ⟨w.heap.size, 0, none⟩ = some (.slice aa A.length ac) ∧ W.cell? ⟨w.heap.size, 1, none⟩ = some (.slice ra R.length rc)) ((first
      | exact ⟨(HKL.out _ (Below.refl _ _)).a, (HKL.out _ (Below.refl _ _)).r⟩ | exact ⟨(HKL.out _ HB1.out).a, (HKL.out _ HB1.out).r⟩ | exact ⟨(HKL.out _ HB2.out).a, (HKL.out _ HB2.out).r⟩)) ((first
      | (go_at_call 11; (with_reducible refine HFX.out.mono ?_); rintro e v1 ⟨vg, rfl, hg, hb1⟩; have HB1 := hide hb1; have HH1 := hide (HHE.out v1 vg hb1 hg); obtain ⟨pg, rfl⟩ := hg.ptr; clear hb1 hg)
      | (go_at_call 10; (with_reducible refine HH1.out.mono ?_); rintro e v2 ⟨rfl, hb2⟩; have HB2 := hide (then_ HB1.out hb2); clear hb2)))
    all_goals
      go_wp2_with fail
      refine (bareS (some 4) 4 rfl v2 (HDA.out _ (HKL.out _ HB2.out).B)).mono ?_
      rintro e v3 ⟨rfl, hb3⟩
      have HB3 := hide (then_ HB2.out hb3)
      clear hb3
      go_wp2_with fail
      go_ret
      exact ⟨rfl, (HKL.out _ HB3.out).B⟩
  · have HW2 : Hid (wrong2 A R x = some 5) := by
      show _ = _
      unfold wrong2
      rw [hck]; rfl
    clear hck
    have ka := H4.out.a
    have kr := H4.out.r
    have HHE : Hid (∀ (V : World) (v : Value), Below w4.drew.heap.size w4.drew V → IsF (fun _ => True) V x v → Calls Tryd.prog 10 #[.agg #[.slice aa A.length ac, .slice ra R.length rc], v] V fun e w' => e = .returned (.tuple #[.slice none 0 0, errV (some 5)]) ∧ Below V.heap.size V w') := fun V v hV hx => by
      have hl := (H4.out.below (drewB w4)).below hV
      refine (Holds_any A R x _ _ v V (HAA.out _ hl.B) (HRR.out _ hl.B) HLA.out HLR.out hx (HPA.out _ hl.B)).mono fun e w' h => ?_
      obtain ⟨hb, h⟩ := h
      rcases h with ⟨k', hk', he⟩ | ⟨hn, _⟩
      · rw [HW2.out] at hk'; cases hk'; exact ⟨he, hb⟩
      · rw [HW2.out] at hn; cases hn
    have HFX := hide (HF1.out w4.drew (H4.out.below (drewB w4)).B)
    have HKL := hide (fun V (hV : Below w4.drew.heap.size w4.drew V) => (H4.out.below (drewB w4)).below hV)
    go_wp2_with fail
    go_region_held3 (fun W => W.cell? ⟨w.heap.size, 0, none⟩ = some (.slice aa A.length ac) ∧ W.cell? ⟨w.heap.size, 1, none⟩ = some (.slice ra R.length rc)) ((first
      | exact ⟨(HKL.out _ (Below.refl _ _)).a, (HKL.out _ (Below.refl _ _)).r⟩ | exact ⟨(HKL.out _ HB1.out).a, (HKL.out _ HB1.out).r⟩ | exact ⟨(HKL.out _ HB2.out).a, (HKL.out _ HB2.out).r⟩)) ((first
      | (go_at_call 11; (with_reducible refine HFX.out.mono ?_); rintro e v1 ⟨vg, rfl, hg, hb1⟩; have HB1 := hide hb1; have HH1 := hide (HHE.out v1 vg hb1 hg); obtain ⟨pg, rfl⟩ := hg.ptr; clear hb1 hg)
      | (go_at_call 10; (with_reducible refine HH1.out.mono ?_); rintro e v2 ⟨rfl, hb2⟩; have HB2 := hide (then_ HB1.out hb2); clear hb2)))
    all_goals
      go_wp2_with fail
      refine (bareS (some 5) 5 rfl v2 (HDA.out _ (HKL.out _ HB2.out).B)).mono ?_
      rintro e v3 ⟨rfl, hb3⟩
      have HB3 := hide (then_ HB2.out hb3)
      clear hb3
      go_wp2_with fail
      go_ret
      exact ⟨rfl, (HKL.out _ HB3.out).B⟩
end Ls
end Go.Proofs.YtmdblokmplbpmaaDoor
