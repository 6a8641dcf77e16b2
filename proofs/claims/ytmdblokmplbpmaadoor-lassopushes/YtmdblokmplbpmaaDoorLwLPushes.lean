/-
  The walk of the statement LassoPushes.
-/
import Derived.Test.YtmdblokmplbpmaaDoorLyForm
import Derived.Test.YtmdblokmplbpmaaDoorLyNamed
import Derived.Test.YtmdblokmplbpmaaDoorLyPush
import Derived.Test.YtmdblokmplbpmaaDoorLyText
import Derived.Test.YtmdblokmplbpmaaDoorLsBare
import Derived.Test.YtmdblokmplbpmaaDoorLsRightsM
namespace Go.Proofs.YtmdblokmplbpmaaDoor
namespace Ls
open Go.RowKit ErAs
theorem nilF_any (w : World) : IsF (fun _ => True) w nilF (.pointer none) := isF_nil.2 rfl
theorem pushNil_any (w : World) (hP : PT w) : Calls Tryd.prog 13 #[.pointer none] w fun e w' => e = .returned (.tuple #[.pointer none, errV (some 7)]) ∧ Below w.heap.size w w' := by
  refine (Push_any nilF _ w (nilF_any w) hP).mono fun e w' h => ?_
  obtain ⟨hb, h⟩ := h
  rcases h with ⟨k, hk, he⟩ | ⟨hk, _⟩
  · rw [right_nil] at hk
    cases hk
    exact ⟨he, hb⟩
  · rw [right_nil] at hk; cases hk
theorem textNil_any (w : World) (hP : PT w) (hS : SG w) : Calls Tryd.prog 15 #[.pointer none] w fun e w' => e = .returned (.string ⟨#[]⟩) ∧ Below w.heap.size w w' := by
  refine (Text_any nilF _ w (nilF_any w) hP hS).mono fun e w' h => ?_
  obtain ⟨he, hb⟩ := h
  have : textOf nilF = [] := by unfold textOf; rw [right_nil]; rfl
  rw [this] at he
  exact ⟨he, hb⟩
theorem ptrEqN (w : World) : (binOp BinOp.eql 40 (.pointer none) (.pointer none)).run Tryd.prog w = .ok (.bool true) w := by kernel_rfl
theorem ptrNeS (b : Nat) (w : World) : (binOp BinOp.neq 40 (.pointer (some ⟨b, 0, none⟩)) (.pointer none)).run Tryd.prog w = .ok (.bool true) w := by kernel_rfl
theorem bare_same (r : Option Nat) (e : Nat) (h : num r = e) (w : World) (hg : Door w) : Calls Tryd.prog 7 #[errV r, .int .i64 (e : Int)] w fun x w' => x = .returned (.bool true) ∧ Below w.heap.size w w' := by
  have hb := bare_any r e w hg
  rw [decide_eq_true h] at hb
  exact hb
theorem bare0 (w : World) (hg : Door w) : Calls Tryd.prog 7 #[.nilIface, .int .i64 0] w fun x w' => x = .returned (.bool true) ∧ Below w.heap.size w w' := bare_same none 0 rfl w hg
theorem bare4 (w : World) (hg : Door w) : Calls Tryd.prog 7 #[errV (some 4), .int .i64 4] w fun x w' => x = .returned (.bool true) ∧ Below w.heap.size w w' := bare_same (some 4) 4 rfl w hg
theorem bare5 (w : World) (hg : Door w) : Calls Tryd.prog 7 #[errV (some 5), .int .i64 5] w fun x w' => x = .returned (.bool true) ∧ Below w.heap.size w w' := bare_same (some 5) 5 rfl w hg
theorem bare7 (w : World) (hg : Door w) : Calls Tryd.prog 7 #[errV (some 7), .int .i64 7] w fun x w' => x = .returned (.bool true) ∧ Below w.heap.size w w' := bare_same (some 7) 7 rfl w hg
set_option maxHeartbeats 16000000 in
set_option maxRecDepth 100000 in
theorem lassoPushes_any (l : List St) (sv : Value) (w : World) (hs : Steps w sv l) (hP : PT w) (hS : SG w) (hD : Door w) :
    Calls Tryd.prog 4 #[sv] w fun e w' => e = .returned (.bool true) ∧ Below w.heap.size w w' := by
  have q1 := errNeqP
  have q2 := nilNeqP
  have q3 := ptrEqN
  have q4 := ptrNeS
  have HC1 := hide (formula_any l sv w hs)
  have HFL := hide (fun (h : l.length ≤ 100) W (hW : Below w.heap.size w W) => Formula_any l sv W (hs.below hW) h)
  have HPA : Hid (∀ W, Below w.heap.size w W → PT W) := fun W hW => hP.below hW
  have HSA : Hid (∀ W, Below w.heap.size w W → SG W) := fun W hW => hS.below hW
  have HDA : Hid (∀ W, Below w.heap.size w W → Door W) := fun W hW => door_below hD hW
  have HWN := hide (wn_formula l)
  obtain ⟨sa, sc, rfl⟩ := hs.slice
  clear hs hP hS hD
  go_enter Tryd.func4, Tryd.ntmps4
  go_wp2_with fail
  refine HC1.out.mono ?_
  rintro e w1 ⟨hb1, hres⟩
  have HB1 := hide hb1
  clear hb1 HC1
  rcases hres with ⟨h40, rfl⟩ | ⟨h40, pf, rfl, hf⟩
  · go_wp2_with fail
    go_ret
    exact ⟨rfl, HB1.out⟩
  have IR1 := hide hf
  have HF1 := hide (HFL.out (by omega) w1 HB1.out)
  clear hf HFL h40
  generalize formula l = x at *
  by_cases hd : depth x ≤ 20
  case neg =>
    have hdd : decide (depth x ≤ 20) = false := decide_eq_false hd
    rw [hdd]
    clear hd hdd
    go_wp2_with fail
    go_ret
    exact ⟨rfl, HB1.out⟩
  have hdd : decide (depth x ≤ 20) = true := decide_eq_true hd
  rw [hdd]
  by_cases h2000 : 2000 < cap (size x)
  · have h2i : (2000 : Int) < (cap (size x) : Int) := by omega
    clear hd hdd
    go_wp2_with fail
    go_ret
    exact ⟨rfl, HB1.out⟩
  have h2i : ¬ (2000 : Int) < (cap (size x) : Int) := by omega
  have hcs : cap (size x) = size x := by unfold cap at h2000 ⊢; omega
  rw [hcs] at h2i ⊢
  have HRL := hide (right_law x HWN.out hd)
  have HNM := hide (fun W (hW : Below w1.heap.size w1 W) => named_any x HWN.out _ W (IR1.out.below hW))
  obtain ⟨sz, hsz⟩ : ∃ sz, sz = size x := ⟨_, rfl⟩
  have HSZ := hide hsz
  rw [← hsz] at HRL h2i ⊢
  clear hd hdd h2000 hcs hsz
  go_wp2_with fail
  refine HF1.out.mono ?_
  rintro e w2 ⟨vg, rfl, hg2, hb2⟩
  have HB2 := hide (then_ HB1.out hb2)
  have HB12 := hide hb2
  have IG2 := hide hg2
  have HN2 := hide (HNM.out w2 hb2)
  obtain ⟨pg, rfl⟩ := hg2.ptr
  clear hg2 hb2 HF1 HNM
  obtain ⟨nx, hnx⟩ : ∃ nx, nx = nmd x := ⟨_, rfl⟩
  have HNX := hide hnx
  rw [← hnx] at HN2 HRL
  clear hnx
  go_wp2_with fail
  refine HN2.out.mono ?_
  rintro e w3 ⟨rfl, hb3⟩
  have HB3 := hide (then_ HB2.out hb3)
  have HB13 := hide (then_ HB12.out hb3)
  have IG3 := hide (IG2.out.below hb3)
  have IR3 := hide (IR1.out.below HB13.out)
  clear hb3 HN2 IG2 IR1 HB12 HB13
  have hcase : (∃ k, right x = some k ∧ ((nx = false ∧ k = 5) ∨ (nx = true ∧ k = 4 ∧ (100 : Int) < (sz : Int)))) ∨ (right x = none ∧ nx = true ∧ ¬ (100 : Int) < (sz : Int)) := by
    have h := HRL.out
    cases nx with
    | false => exact .inl ⟨5, h, .inl ⟨rfl, rfl⟩⟩
    | true =>
      rw [if_neg (by decide)] at h
      by_cases h1 : 100 < sz
      · rw [if_pos h1] at h
        exact .inl ⟨4, h, .inr ⟨rfl, rfl, by omega⟩⟩
      · rw [if_neg h1] at h
        exact .inr ⟨h, rfl, by omega⟩
  have HPU := hide (Push_any x _ w3 IG3.out (HPA.out _ HB3.out))
  clear HRL
  rcases hcase with ⟨k, hr, hk⟩ | ⟨hr, rfl, hn100⟩
  · have HR := hide hr
    have HPU2 : Hid (Calls Tryd.prog 13 #[.pointer pg] w3 fun e w' => e = .returned (.tuple #[.pointer none, errV (some k)]) ∧ Below w3.heap.size w3 w') := HPU.out.mono fun e w' h => by
      obtain ⟨hb, h⟩ := h
      rcases h with ⟨k', hk', he⟩ | ⟨hn, _⟩
      · rw [HR.out] at hk'; cases hk'; exact ⟨he, hb⟩
      · rw [HR.out] at hn; cases hn
    clear HPU hr
    rcases hk with ⟨rfl, rfl⟩ | ⟨rfl, rfl, h100⟩
    · go_wp2_with fail
      refine HPU2.out.mono ?_
      rintro e w4 ⟨rfl, hb4⟩
      have HB4 := hide (then_ HB3.out hb4)
      have IG4 := hide (IG3.out.below hb4)
      clear hb4 HPU2 IG3
      go_wp2_with fail
      refine (pushNil_any w4 (HPA.out _ HB4.out)).mono ?_
      rintro e w5 ⟨rfl, hb5⟩
      have HB5 := hide (then_ HB4.out hb5)
      have IG5 := hide (IG4.out.below hb5)
      have HRT := hide (Right_any x _ w5 IG5.out (HPA.out _ HB5.out))
      rw [HR.out] at HRT
      clear hb5 IG4
      go_wp2_with fail
      refine HRT.out.mono ?_
      rintro e w6 ⟨rfl, hb6⟩
      have HB6 := hide (then_ HB5.out hb6)
      have IG6 := hide (IG5.out.below hb6)
      clear hb6 IG5 HRT
      go_wp2_with fail
      refine (bare5 w6 (HDA.out _ HB6.out)).mono ?_
      rintro e w7 ⟨rfl, hb7⟩
      have HB7 := hide (then_ HB6.out hb7)
      have IG7 := hide (IG6.out.below hb7)
      clear hb7 IG6
      go_wp2_with fail
      refine (bare5 w7 (HDA.out _ HB7.out)).mono ?_
      rintro e w8 ⟨rfl, hb8⟩
      have HB8 := hide (then_ HB7.out hb8)
      have IG8 := hide (IG7.out.below hb8)
      clear hb8 IG7
      go_wp2_with fail
      refine (bare7 w8 (HDA.out _ HB8.out)).mono ?_
      rintro e w9 ⟨rfl, hb9⟩
      have HB9 := hide (then_ HB8.out hb9)
      have IG9 := hide (IG8.out.below hb9)
      clear hb9 IG8
      go_wp2_with fail
      refine (textNil_any w9 (HPA.out _ HB9.out) (HSA.out _ HB9.out)).mono ?_
      rintro e w10 ⟨rfl, hb10⟩
      have HB10 := hide (then_ HB9.out hb10)
      have IG10 := hide (IG9.out.below hb10)
      have HTX := hide (Text_any x _ w10 IG10.out (HPA.out _ HB10.out) (HSA.out _ HB10.out))
      have hte : textOf x = [] := by unfold textOf; rw [HR.out]; rfl
      rw [hte] at HTX
      clear hb10 IG9 hte
      go_wp2_with fail
      refine HTX.out.mono ?_
      rintro e w11 ⟨rfl, hb11⟩
      have HB11 := hide (then_ HB10.out hb11)
      clear hb11
      go_wp2_with fail
      go_ret
      exact ⟨rfl, HB11.out⟩
    · go_wp2_with fail
      refine HPU2.out.mono ?_
      rintro e w4 ⟨rfl, hb4⟩
      have HB4 := hide (then_ HB3.out hb4)
      have IG4 := hide (IG3.out.below hb4)
      clear hb4 HPU2 IG3
      go_wp2_with fail
      refine (pushNil_any w4 (HPA.out _ HB4.out)).mono ?_
      rintro e w5 ⟨rfl, hb5⟩
      have HB5 := hide (then_ HB4.out hb5)
      have IG5 := hide (IG4.out.below hb5)
      have HRT := hide (Right_any x _ w5 IG5.out (HPA.out _ HB5.out))
      rw [HR.out] at HRT
      clear hb5 IG4
      go_wp2_with fail
      refine HRT.out.mono ?_
      rintro e w6 ⟨rfl, hb6⟩
      have HB6 := hide (then_ HB5.out hb6)
      have IG6 := hide (IG5.out.below hb6)
      clear hb6 IG5 HRT
      go_wp2_with fail
      refine (bare4 w6 (HDA.out _ HB6.out)).mono ?_
      rintro e w7 ⟨rfl, hb7⟩
      have HB7 := hide (then_ HB6.out hb7)
      have IG7 := hide (IG6.out.below hb7)
      clear hb7 IG6
      go_wp2_with fail
      refine (bare4 w7 (HDA.out _ HB7.out)).mono ?_
      rintro e w8 ⟨rfl, hb8⟩
      have HB8 := hide (then_ HB7.out hb8)
      have IG8 := hide (IG7.out.below hb8)
      clear hb8 IG7
      go_wp2_with fail
      refine (bare7 w8 (HDA.out _ HB8.out)).mono ?_
      rintro e w9 ⟨rfl, hb9⟩
      have HB9 := hide (then_ HB8.out hb9)
      have IG9 := hide (IG8.out.below hb9)
      clear hb9 IG8
      go_wp2_with fail
      refine (textNil_any w9 (HPA.out _ HB9.out) (HSA.out _ HB9.out)).mono ?_
      rintro e w10 ⟨rfl, hb10⟩
      have HB10 := hide (then_ HB9.out hb10)
      have IG10 := hide (IG9.out.below hb10)
      have HTX := hide (Text_any x _ w10 IG10.out (HPA.out _ HB10.out) (HSA.out _ HB10.out))
      have hte : textOf x = [] := by unfold textOf; rw [HR.out]; rfl
      rw [hte] at HTX
      clear hb10 IG9 hte
      go_wp2_with fail
      refine HTX.out.mono ?_
      rintro e w11 ⟨rfl, hb11⟩
      have HB11 := hide (then_ HB10.out hb11)
      clear hb11
      go_wp2_with fail
      go_ret
      exact ⟨rfl, HB11.out⟩
  · have HR := hide hr
    have HPU2 : Hid (Calls Tryd.prog 13 #[.pointer pg] w3 fun e w' => ∃ b, e = .returned (.tuple #[.pointer (some ⟨b, 0, none⟩), .nilIface]) ∧ IsF (fun _ => True) w' (push x false) (.pointer (some ⟨b, 0, none⟩)) ∧ Below w3.heap.size w3 w') := HPU.out.mono fun e w' h => by
      obtain ⟨hb, h⟩ := h
      rcases h with ⟨k', hk', _⟩ | ⟨_, b, he, hf⟩
      · rw [HR.out] at hk'; cases hk'
      · exact ⟨b, he, hf, hb⟩
    have HWF : Hid (wf x = true) := wn_wf x HWN.out
    have HS100 : Hid (size x ≤ 100) := by show _ ≤ _; rw [← HSZ.out]; omega
    have HND : Hid (nmd x = true) := HNX.out.symm
    have HPS := hide (push_is x HWF.out false)
    have hte : textOf x = textF x := by unfold textOf; rw [HR.out]; rfl
    have HTE := hide hte
    clear HPU hr hte
    go_wp2_with fail
    refine HPU2.out.mono ?_
    rintro e w4 ⟨bp, rfl, hp4, hb4⟩
    have HB4 := hide (then_ HB3.out hb4)
    have IG4 := hide (IG3.out.below hb4)
    have IR4 := hide (IR3.out.below hb4)
    have IP4 := hide hp4
    clear hb4 HPU2 IG3 IR3 hp4
    go_wp2_with fail
    refine (pushNil_any w4 (HPA.out _ HB4.out)).mono ?_
    rintro e w5 ⟨rfl, hb5⟩
    have HB5 := hide (then_ HB4.out hb5)
    have IG5 := hide (IG4.out.below hb5)
    have IR5 := hide (IR4.out.below hb5)
    have IP5 := hide (IP4.out.below hb5)
    have HRT : Hid (Calls Tryd.prog 14 #[.pointer pg] w5 fun e w' => e = .returned .nilIface ∧ Below w5.heap.size w5 w') := by
      have h := Right_any x _ w5 IG5.out (HPA.out _ HB5.out)
      rw [HR.out] at h
      exact h
    clear hb5 IG4 IR4 IP4
    go_wp2_with fail
    refine HRT.out.mono ?_
    rintro e w6 ⟨rfl, hb6⟩
    have HB6 := hide (then_ HB5.out hb6)
    have HB56 := hide hb6
    clear hb6 HRT
    go_wp2_with fail
    refine (bare0 w6 (HDA.out _ HB6.out)).mono ?_
    rintro e w7 ⟨rfl, hb7⟩
    have HB7 := hide (then_ HB6.out hb7)
    have HB57 := hide (then_ HB56.out hb7)
    clear hb7 HB56
    go_wp2_with fail
    refine (bare0 w7 (HDA.out _ HB7.out)).mono ?_
    rintro e w8 ⟨rfl, hb8⟩
    have HB8 := hide (then_ HB7.out hb8)
    have HB58 := hide (then_ HB57.out hb8)
    clear hb8 HB57
    go_wp2_with fail
    refine (bare7 w8 (HDA.out _ HB8.out)).mono ?_
    rintro e w9 ⟨rfl, hb9⟩
    have HB9 := hide (then_ HB8.out hb9)
    have HB59 := hide (then_ HB58.out hb9)
    clear hb9 HB58
    go_wp2_with fail
    refine (textNil_any w9 (HPA.out _ HB9.out) (HSA.out _ HB9.out)).mono ?_
    rintro e w10 ⟨rfl, hb10⟩
    have HB10 := hide (then_ HB9.out hb10)
    have HB510 := hide (then_ HB59.out hb10)
    have HRP := hide (rpush_any x HWF.out false (fun _ => True) w10 _ (IR5.out.below HB510.out))
    clear hb10 HB59
    go_wp2_with fail
    refine HRP.out.mono ?_
    rintro e w11 ⟨pq, rfl, hq11, hb11⟩
    have HB11 := hide (then_ HB10.out hb11)
    have HB511 := hide (then_ HB510.out hb11)
    have HRX := hide (rtext_any (push x false) HPS.out.1 (HPS.out.2.1 HND.out) (by have h1 := HPS.out.2.2; have h2 := HS100.out; omega) w11 _ (hq11.weak fun _ _ => trivial))
    clear hb11 hq11 HRP HB510
    have HTP : Hid (right (push x false) = none → textOf (push x false) = textF (push x false)) := fun h => by unfold textOf; rw [h]; rfl
    generalize textF (push x false) = tp at *
    go_wp2_with fail
    refine HRX.out.mono ?_
    rintro e w12 ⟨rfl, hb12⟩
    have HB12 := hide (then_ HB11.out hb12)
    have HB512 := hide (then_ HB511.out hb12)
    have HTX := hide (Text_any x _ w12 (IG5.out.below HB512.out) (HPA.out _ HB12.out) (HSA.out _ HB12.out))
    rw [HTE.out] at HTX
    clear hb12 HRX HB511
    go_wp2_with fail
    refine HTX.out.mono ?_
    rintro e w13 ⟨rfl, hb13⟩
    have HB13 := hide (then_ HB12.out hb13)
    have HB513 := hide (then_ HB512.out hb13)
    have HRF := hide (rtext_any x HWF.out HND.out (by have h2 := HS100.out; omega) w13 _ (IR5.out.below HB513.out))
    clear hb13 HTX HB512
    generalize textF x = tx at *
    go_wp2_with fail
    refine HRF.out.mono ?_
    rintro e w14 ⟨rfl, hb14⟩
    have HB14 := hide (then_ HB13.out hb14)
    have HB514 := hide (then_ HB513.out hb14)
    have IP14 := hide (IP5.out.below HB514.out)
    have HRQ := hide (Right_any (push x false) _ w14 IP14.out (HPA.out _ HB14.out))
    clear hb14 HRF HB513
    cases hrg : right (push x false) with
    | some kq =>
      rw [hrg, errV_some] at HRQ
      clear hrg
      go_wp2_with fail
      refine HRQ.out.mono ?_
      rintro e w15 ⟨rfl, hb15⟩
      have HB15 := hide (then_ HB14.out hb15)
      clear hb15
      go_wp2_with fail
      go_ret
      exact ⟨rfl, HB15.out⟩
    | none =>
      have HTQ := hide (HTP.out hrg)
      rw [hrg, errV_none] at HRQ
      clear hrg
      go_wp2_with fail
      refine HRQ.out.mono ?_
      rintro e w15 ⟨rfl, hb15⟩
      have HB15 := hide (then_ HB14.out hb15)
      have HTZ := hide (Text_any (push x false) _ w15 (IP14.out.below hb15) (HPA.out _ HB15.out) (HSA.out _ HB15.out))
      rw [HTQ.out] at HTZ
      clear hb15 HTQ HTP
      go_wp2_with fail
      refine HTZ.out.mono ?_
      rintro e w16 ⟨rfl, hb16⟩
      have HB16 := hide (then_ HB15.out hb16)
      clear hb16
      go_wp2_with fail
      go_ret
      exact ⟨rfl, HB16.out⟩
end Ls
end Go.Proofs.YtmdblokmplbpmaaDoor
