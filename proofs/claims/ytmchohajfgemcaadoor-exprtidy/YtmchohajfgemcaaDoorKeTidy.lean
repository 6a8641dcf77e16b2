/-
  The walk of ExprTidy: what is made tidy says the same, is no greater, and is tidy.
-/
import Derived.Test.YtmchohajfgemcaaDoorKeSays
import Derived.Test.YtmchohajfgemcaaDoorEvSize
import Derived.Test.YtmchohajfgemcaaDoorRtParse
import Derived.Test.YtmchohajfgemcaaDoorTdTidy
namespace Go.Proofs.YtmchohajfgemcaaDoor
open Go.RowKit
set_option maxHeartbeats 4000000 in
theorem keepTidy_any (s : ByteArray) (hs : s.size ≤ maxLen) (a1 a2 : Option Addr) (n1 c1 n2 c2 : Nat) (hn1 : n1 ≤ 9223372036854775807) (hn2 : n2 ≤ 9223372036854775807) (is was : List ByteArray) (w : World)
    (h1 : n1 ≤ 20 → Strs w (.slice a1 n1 c1) is) (h2 : n2 ≤ 20 → Strs w (.slice a2 n2 c2) was) (hp : Pow w) :
    Calls Tryd.prog 4 #[.string s, .slice a1 n1 c1, .slice a2 n2 c2] w fun e w' => e = .returned (.bool true) ∧ Below w.heap.size w w' := by
  have hs' := hs
  unfold maxLen at hs'
  by_cases q1 : 900 < s.size
  · have q1' : (900 : Int) < (s.size : Int) := by omega
    go_enter Tryd.func4, Tryd.ntmps4
    go_wp2_with fail
    go_ret
    exact ⟨rfl, Below.refl _ _⟩
  have q1' : ¬ (900 : Int) < (s.size : Int) := by omega
  by_cases q2 : 20 < n1
  · have q2' : (20 : Int) < (n1 : Int) := by omega
    clear h1 h2 hp
    go_enter Tryd.func4, Tryd.ntmps4
    go_wp2_with fail
    go_ret
    exact ⟨rfl, Below.refl _ _⟩
  have q2' : ¬ (20 : Int) < (n1 : Int) := by omega
  by_cases q3 : 20 < n2
  · have q3' : (20 : Int) < (n2 : Int) := by omega
    clear h1 h2 hp
    go_enter Tryd.func4, Tryd.ntmps4
    go_wp2_with fail
    go_ret
    exact ⟨rfl, Below.refl _ _⟩
  have q3' : ¬ (20 : Int) < (n2 : Int) := by omega
  have S1 := hide (h1 (by omega))
  have S2 := hide (h2 (by omega))
  have HP := hide (Parse_any s w hs)
  have HPOW := hide hp
  clear h1 h2 hp
  obtain ⟨T, hT⟩ : ∃ T, T = Ex.parse s.data.toList := ⟨_, rfl⟩
  have HT := hide hT
  rw [← hT] at HP
  clear hT q1 q2 q3
  go_enter Tryd.func4, Tryd.ntmps4
  go_wp2_with fail
  refine HP.out.mono ?_
  intro e w1 hq
  clear HP
  match T, hq, HT with
  | .inl (err, p), hq, _ =>
    obtain ⟨hb1, hq⟩ := hq
    have HB1 := hide hb1
    obtain ⟨t, y, he⟩ : ∃ t y, e = .returned (.tuple #[.nilIface, .iface t y]) := by
      match p, hq with
      | none, hq => exact ⟨_, _, hq⟩
      | some p, ⟨v, he, a, _, hv, _⟩ => exact ⟨_, _, by rw [he, hv]⟩
    subst he
    clear hb1 hq
    go_wp2_with fail
    refine (says_any w1).mono ?_
    rintro e w2 ⟨rfl, hb2⟩
    have HB2 := hide hb2
    clear hb2
    go_wp2_with fail
    refine (says_any w2).mono ?_
    rintro e w3 ⟨rfl, hb3⟩
    have HB3 := hide hb3
    clear hb3
    go_wp2_with fail
    go_ret
    have s1 := HB1.out.size
    have s2 := HB2.out.size
    exact ⟨rfl, (HB1.out.trans (HB2.out.mono (by omega))).trans (HB3.out.mono (by omega))⟩
  | .inr x, hq, HT =>
    obtain ⟨hb1, v, rfl, hx1⟩ := hq
    have hbd := Ex.parse_bnd _ x HT.out.symm
    have HBD := hide hbd
    have HB1 := hide hb1
    have HX1 := hide hx1
    obtain ⟨tu, yu, hiu⟩ := IsEx.iface _ v hx1
    subst hiu
    clear hb1 hx1 hbd
    go_wp2_with fail
    refine (says_any w1).mono ?_
    rintro e w2 ⟨rfl, hb2⟩
    have HB2 := hide hb2
    have HX2 := hide (HX1.out.later hb2)
    clear hb2
    have hwf := Ex.parse_wf _ x HT.out.symm
    have HWF := hide hwf
    have HTD := hide (Ex.td_tidy x hwf)
    have hsz900 : s.data.toList.length = s.size := Array.length_toList
    have hsx : x.size ≤ 900 := by have := HBD.out; omega
    have hst : x.tidy.size ≤ x.size := Ex.size_tidy x hwf
    have hcx : Ex.cost x ≤ 1000000 := Nat.le_trans (Ex.cost_le x) (Nat.le_trans (Nat.mul_le_mul hsx hsx) (by decide))
    have hct : Ex.cost x.tidy ≤ 1000000 := Nat.le_trans (Ex.cost_le x.tidy) (Nat.le_trans (Nat.mul_le_mul (Nat.le_trans hst hsx) (Nat.le_trans hst hsx)) (by decide))
    have htt : x.tidy.text.length ≤ 1000000 := by have := text_size x.tidy (Ex.Td.wf _ HTD.out); omega
    have HTT := hide (Ex.tidy_td x.tidy HTD.out)
    have HTW := hide (Ex.Td.wf x.tidy HTD.out)
    have s1 := HB1.out.size
    have C2 := hide (HB1.out.trans (HB2.out.mono (by omega)))
    have P2 := hide (HPOW.out.block (C2.out.block _ HPOW.out.lt))
    have HEV : Hid (x.tidy.eval (amongB is) (amongB was) = x.eval (amongB is) (amongB was)) := Ex.eval_tidy (amongB is) (amongB was) x hwf
    have HSI := hide (size_any x)
    have HSJ := hide (size_any x.tidy)
    have hzx : x.size ≤ 1000000 := by omega
    have hzt : x.tidy.size ≤ 1000000 := by omega
    have HC3 := hide (Tidy_any x _ w2 HX2.out P2.out hwf hcx)
    have HTX := hide (fun (W : World) (vv : Value) (hv : IsEx (fun _ => True) W x.tidy vv) => Text_any _ x.tidy vv W hv htt)
    have HTW2 := hide (fun (W : World) (vv : Value) (hv : IsEx (fun _ => True) W x.tidy vv) (hp : Pow W) => Tidy_any x.tidy vv W hv hp HTW.out hct)
    rw [HTT.out] at HTW2
    clear hwf hsz900 htt hcx hct HTD HTT HWF HB1 HB2 s1 HTW HT HX1 HPOW HBD
    generalize x.tidy = y at *
    go_wp2_with fail
    refine HC3.out.mono ?_
    rintro e w3 ⟨v3, rfl, hx3, hb3⟩
    have HB3 := hide hb3
    have HY3 := hide hx3
    have HX3 := hide (HX2.out.later hb3)
    have C3 := hide (C2.out.trans (hb3.mono C2.out.size))
    have P3 := hide (P2.out.block (hb3.block _ P2.out.lt))
    obtain ⟨tv, yv, hiv⟩ := IsEx.iface _ v3 hx3
    subst hiv
    clear hb3 hx3 HC3
    go_wp2_with fail
    refine (among_any _ is w3 (S1.out.below C3.out)).mono ?_
    rintro e w8 ⟨f, rfl, ht, hb8⟩
    have T8 := hide ht
    have HB8 := hide hb8
    obtain ⟨K8, c8, hf, _, _⟩ := ht
    subst hf
    have C8 := hide (C3.out.trans (hb8.mono C3.out.size))
    have P8 := hide (P3.out.block (hb8.block _ P3.out.lt))
    have HX8 := hide (HX3.out.later hb8)
    have HY8 := hide (HY3.out.later hb8)
    clear hb8
    go_wp2_with fail
    refine (among_any _ was w8 (S2.out.below C8.out)).mono ?_
    rintro e w9 ⟨f, rfl, ht, hb9⟩
    have T9 := hide ht
    have HB9 := hide hb9
    obtain ⟨K9, c9, hf, _, _⟩ := ht
    subst hf
    have C9 := hide (C8.out.trans (hb9.mono C8.out.size))
    have P9 := hide (P8.out.block (hb9.block _ P8.out.lt))
    have HX9 := hide (HX8.out.later hb9)
    have HY9 := hide (HY8.out.later hb9)
    clear hb9
    go_wp2_with fail
    refine (Eval_any _ y _ _ _ _ _ w9 HY9.out (T8.out.below HB9.out) T9.out).mono ?_
    rintro e w10 ⟨rfl, hb10⟩
    have C10 := hide (C9.out.trans (hb10.mono C9.out.size))
    have P10 := hide (P9.out.block (hb10.block _ P9.out.lt))
    have HX10 := hide (HX9.out.later hb10)
    have HY10 := hide (HY9.out.later hb10)
    clear hb10
    rw [HEV.out]
    generalize hev : x.eval (amongB is) (amongB was) = ev
    have HEV2 := hide hev
    clear hev HEV
    go_wp2_with fail
    refine (among_any _ is w10 (S1.out.below C10.out)).mono ?_
    rintro e w11 ⟨f, rfl, ht, hb11⟩
    have T11 := hide ht
    have HB11 := hide hb11
    obtain ⟨K11, c11, hf, _, _⟩ := ht
    subst hf
    have C11 := hide (C10.out.trans (hb11.mono C10.out.size))
    have P11 := hide (P10.out.block (hb11.block _ P10.out.lt))
    have HX11 := hide (HX10.out.later hb11)
    have HY11 := hide (HY10.out.later hb11)
    clear hb11
    go_wp2_with fail
    refine (among_any _ was w11 (S2.out.below C11.out)).mono ?_
    rintro e w12 ⟨f, rfl, ht, hb12⟩
    have T12 := hide ht
    have HB12 := hide hb12
    obtain ⟨K12, c12, hf, _, _⟩ := ht
    subst hf
    have C12 := hide (C11.out.trans (hb12.mono C11.out.size))
    have P12 := hide (P11.out.block (hb12.block _ P11.out.lt))
    have HX12 := hide (HX11.out.later hb12)
    have HY12 := hide (HY11.out.later hb12)
    clear hb12
    go_wp2_with fail
    refine (Eval_any _ x _ _ _ _ _ w12 HX12.out (T11.out.below HB12.out) T12.out).mono ?_
    rintro e w13 ⟨rfl, hb13⟩
    have C13 := hide (C12.out.trans (hb13.mono C12.out.size))
    have P13 := hide (P12.out.block (hb13.block _ P12.out.lt))
    have HX13 := hide (HX12.out.later hb13)
    have HY13 := hide (HY12.out.later hb13)
    clear hb13
    rw [HEV2.out]
    go_wp2_with fail
    refine (HSJ.out _ w13 HY13.out hzt).mono ?_
    rintro e w14 ⟨rfl, hb14⟩
    have C14 := hide (C13.out.trans (hb14.mono C13.out.size))
    have P14 := hide (P13.out.block (hb14.block _ P13.out.lt))
    have HX14 := hide (HX13.out.later hb14)
    have HY14 := hide (HY13.out.later hb14)
    clear hb14
    go_wp2_with fail
    refine (HSI.out _ w14 HX14.out hzx).mono ?_
    rintro e w15 ⟨rfl, hb15⟩
    have C15 := hide (C14.out.trans (hb15.mono C14.out.size))
    have P15 := hide (P14.out.block (hb15.block _ P14.out.lt))
    have HY15 := hide (HY14.out.later hb15)
    have hle : (y.size : Int) ≤ (x.size : Int) := by omega
    clear hb15
    go_wp2_with fail
    refine (HTW2.out w15 _ HY15.out P15.out).mono ?_
    rintro e w16 ⟨v16, rfl, hx16, hb16⟩
    have C16 := hide (C15.out.trans (hb16.mono C15.out.size))
    have HZ16 := hide hx16
    have HY16 := hide (HY15.out.later hb16)
    obtain ⟨tz, yz, hiz⟩ := IsEx.iface _ v16 hx16
    subst hiz
    clear hb16 hx16
    go_wp2_with fail
    refine (HTX.out w16 _ HZ16.out).mono ?_
    rintro e w17 ⟨rfl, hb17⟩
    have C17 := hide (C16.out.trans (hb17.mono C16.out.size))
    have HY17 := hide (HY16.out.later hb17)
    clear hb17
    generalize (⟨y.text.toArray⟩ : ByteArray) = tx at *
    go_wp2_with fail
    refine (HTX.out w17 _ HY17.out).mono ?_
    rintro e w18 ⟨rfl, hb18⟩
    have C18 := hide (C17.out.trans (hb18.mono C17.out.size))
    clear hb18
    go_wp2_with fail
    go_ret
    exact ⟨ret_bool (by simp), C18.out⟩
end Go.Proofs.YtmchohajfgemcaaDoor
