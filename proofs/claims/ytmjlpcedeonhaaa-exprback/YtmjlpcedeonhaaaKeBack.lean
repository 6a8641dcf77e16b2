/-
  The walk of ExprBack: what an expression's text tells is that expression again.
-/
import Derived.Test.YtmjlpcedeonhaaaKeSays
import Derived.Test.YtmjlpcedeonhaaaRtParse
namespace Go.Proofs.Ytmjlpcedeonhaaa
open Go.RowKit
set_option maxHeartbeats 4000000 in
theorem back_any (s : ByteArray) (hs : s.size ≤ maxLen) (a1 a2 : Option Addr) (n1 c1 n2 c2 : Nat) (hn1 : n1 ≤ 9223372036854775807) (hn2 : n2 ≤ 9223372036854775807) (is was : List ByteArray) (w : World)
    (h1 : n1 ≤ 20 → Strs w (.slice a1 n1 c1) is) (h2 : n2 ≤ 20 → Strs w (.slice a2 n2 c2) was) :
    Calls Try.prog 4 #[.string s, .slice a1 n1 c1, .slice a2 n2 c2] w fun e w' => e = .returned (.bool true) ∧ Below w.heap.size w w' := by
  have hs' := hs
  unfold maxLen at hs'
  by_cases q1 : 900 < s.size
  · have q1' : (900 : Int) < (s.size : Int) := by omega
    go_enter Try.func4, Try.ntmps4
    go_wp2_with fail
    go_ret
    exact ⟨rfl, Below.refl _ _⟩
  have q1' : ¬ (900 : Int) < (s.size : Int) := by omega
  by_cases q2 : 20 < n1
  · have q2' : (20 : Int) < (n1 : Int) := by omega
    clear h1 h2
    go_enter Try.func4, Try.ntmps4
    go_wp2_with fail
    go_ret
    exact ⟨rfl, Below.refl _ _⟩
  have q2' : ¬ (20 : Int) < (n1 : Int) := by omega
  by_cases q3 : 20 < n2
  · have q3' : (20 : Int) < (n2 : Int) := by omega
    clear h1 h2
    go_enter Try.func4, Try.ntmps4
    go_wp2_with fail
    go_ret
    exact ⟨rfl, Below.refl _ _⟩
  have q3' : ¬ (20 : Int) < (n2 : Int) := by omega
  have S1 := hide (h1 (by omega))
  have S2 := hide (h2 (by omega))
  have HP := hide (Parse_any s w hs)
  clear h1 h2
  obtain ⟨T, hT⟩ : ∃ T, T = Ex.parse s.data.toList := ⟨_, rfl⟩
  have HT := hide hT
  rw [← hT] at HP
  clear hT q1 q2 q3
  go_enter Try.func4, Try.ntmps4
  go_wp2_with fail
  refine HP.out.mono ?_
  intro e w1 hq
  clear HP
  match T, hq, HT with
  | .inl (err, p), hq, _ =>
    obtain ⟨hb1, hq⟩ := hq
    have HB1 := hide hb1
    obtain ⟨t, y, he⟩ : ∃ t y, e = .returned (.tuple #[.nilIface, .iface t y]) := by
      match p, hq with
      | none, hq => exact ⟨_, _, hq⟩
      | some p, ⟨v, he, a, _, hv, _⟩ => exact ⟨_, _, by rw [he, hv]⟩
    subst he
    clear hb1 hq
    go_wp2_with fail
    refine (says_any w1).mono ?_
    rintro e w2 ⟨rfl, hb2⟩
    have HB2 := hide hb2
    clear hb2
    go_wp2_with fail
    refine (says_any w2).mono ?_
    rintro e w3 ⟨rfl, hb3⟩
    have HB3 := hide hb3
    clear hb3
    go_wp2_with fail
    go_ret
    have s1 := HB1.out.size
    have s2 := HB2.out.size
    exact ⟨rfl, (HB1.out.trans (HB2.out.mono (by omega))).trans (HB3.out.mono (by omega))⟩
  | .inr x, hq, HT =>
    obtain ⟨hb1, v, rfl, hx1⟩ := hq
    have hbd := Ex.parse_bnd _ x HT.out.symm
    have HBD := hide hbd
    have HB1 := hide hb1
    have HX1 := hide hx1
    obtain ⟨tu, yu, hiu⟩ := IsEx.iface _ v hx1
    subst hiu
    clear hb1 hx1 hbd
    go_wp2_with fail
    refine (says_any w1).mono ?_
    rintro e w2 ⟨rfl, hb2⟩
    have HB2 := hide hb2
    have HX2 := hide (HX1.out.later hb2)
    clear hb2
    go_wp2_with fail
    refine (Text_any _ x _ w2 HX2.out (by have := HBD.out; omega)).mono ?_
    rintro e w3 ⟨rfl, hb3⟩
    have HB3 := hide hb3
    have HX3 := hide (HX2.out.later hb3)
    have HSZ : Hid ((⟨x.text.toArray⟩ : ByteArray).size = x.text.length) := by show _ = _; simp [ByteArray.size]
    have ht6 : (⟨x.text.toArray⟩ : ByteArray).size ≤ 6000 := by rw [HSZ.out]; have := HBD.out; omega
    clear hb3
    by_cases q4 : 2000 < (⟨x.text.toArray⟩ : ByteArray).size
    · have q4' : (2000 : Int) < ((⟨x.text.toArray⟩ : ByteArray).size : Int) := by omega
      generalize (⟨x.text.toArray⟩ : ByteArray) = tx at *
      go_wp2_with fail
      go_ret
      have s1 := HB1.out.size
      have s2 := HB2.out.size
      exact ⟨rfl, (HB1.out.trans (HB2.out.mono (by omega))).trans (HB3.out.mono (by omega))⟩
    · have q4' : ¬ (2000 : Int) < ((⟨x.text.toArray⟩ : ByteArray).size : Int) := by omega
      have HPB := hide (Ex.parse_back _ x HT.out.symm (by rw [← HSZ.out]; omega))
      have HP2 := hide (Parse_any ⟨x.text.toArray⟩ w3 (by unfold maxLen; omega))
      have HTX := hide (fun (W : World) (vv : Value) (hv : IsEx (fun _ => True) W x vv) => Text_any _ x vv W hv (by have := HBD.out; omega))
      change Hid (Calls _ _ _ _ (Parsed w3 (Ex.parse x.text))) at HP2
      rw [HPB.out] at HP2
      generalize htx : (⟨x.text.toArray⟩ : ByteArray) = tx at *
      clear htx q4
      go_wp2_with fail
      refine HP2.out.mono ?_
      rintro e w4 ⟨hb4, v4, rfl, hx4⟩
      have HB4 := hide hb4
      have HX4 := hide (IsEx.stay (fun g i u _ hc => hc) (fun g _ => trivial) x v4 hx4 : IsEx (fun _ => True) w4 x v4)
      have HY4 := hide (HX3.out.later hb4)
      obtain ⟨tv, yv, hiv⟩ := IsEx.iface _ v4 hx4
      subst hiv
      clear hb4 hx4 HP2
      go_wp2_with fail
      refine (HTX.out w4 _ HX4.out).mono ?_
      rintro e w5 ⟨rfl, hb5⟩
      have HB5 := hide hb5
      have HX5 := hide (HX4.out.later hb5)
      have HY5 := hide (HY4.out.later hb5)
      clear hb5
      have hsz1 : x.size ≤ 1000000 := by have := HBD.out; omega
      have HSI := hide (size_any x)
      generalize hsx : (x.size : Int) = zx
      go_wp2_with fail
      refine (HSI.out _ w5 HX5.out hsz1).mono ?_
      rintro e w6 ⟨rfl, hb6⟩
      have HB6 := hide hb6
      have HX6 := hide (HX5.out.later hb6)
      have HY6 := hide (HY5.out.later hb6)
      clear hb6
      go_wp2_with fail
      refine (HSI.out _ w6 HY6.out hsz1).mono ?_
      rintro e w7 ⟨rfl, hb7⟩
      have HB7 := hide hb7
      have HX7 := hide (HX6.out.later hb7)
      have HY7 := hide (HY6.out.later hb7)
      clear hb7
      have s1 := HB1.out.size
      have s2 := HB2.out.size
      have s3 := HB3.out.size
      have s4 := HB4.out.size
      have s5 := HB5.out.size
      have s6 := HB6.out.size
      have s7 := HB7.out.size
      have C7 := hide ((((((HB1.out.trans (HB2.out.mono (by omega))).trans (HB3.out.mono (by omega))).trans (HB4.out.mono (by omega))).trans (HB5.out.mono (by omega))).trans (HB6.out.mono (by omega))).trans (HB7.out.mono (by omega)))
      clear HB1 HB2 HB3 HB4 HB5 HB6 HB7 s1 s2 s3 s4 s5 s6 s7
      go_wp2_with fail
      refine (among_any _ is w7 (S1.out.below C7.out)).mono ?_
      rintro e w8 ⟨f, rfl, ht, hb8⟩
      have T8 := hide ht
      have HB8 := hide hb8
      obtain ⟨K8, c8, hf, _, _⟩ := ht
      subst hf
      have C8 := hide (C7.out.trans (hb8.mono C7.out.size))
      clear hb8
      go_wp2_with fail
      refine (among_any _ was w8 (S2.out.below C8.out)).mono ?_
      rintro e w9 ⟨f, rfl, ht, hb9⟩
      have T9 := hide ht
      have HB9 := hide hb9
      obtain ⟨K9, c9, hf, _, _⟩ := ht
      subst hf
      have C9 := hide (C8.out.trans (hb9.mono C8.out.size))
      have HX9 := hide ((HX7.out.later HB8.out).later hb9)
      have HY9 := hide ((HY7.out.later HB8.out).later hb9)
      clear hb9
      go_wp2_with fail
      refine (Eval_any _ x _ _ _ _ _ w9 HX9.out (T8.out.below HB9.out) T9.out).mono ?_
      rintro e w10 ⟨rfl, hb10⟩
      have C10 := hide (C9.out.trans (hb10.mono C9.out.size))
      have HY10 := hide (HY9.out.later hb10)
      clear hb10
      generalize hev : x.eval (amongB is) (amongB was) = ev
      have HEV := hide hev
      clear hev
      go_wp2_with fail
      refine (among_any _ is w10 (S1.out.below C10.out)).mono ?_
      rintro e w11 ⟨f, rfl, ht, hb11⟩
      have T11 := hide ht
      have HB11 := hide hb11
      obtain ⟨K11, c11, hf, _, _⟩ := ht
      subst hf
      have C11 := hide (C10.out.trans (hb11.mono C10.out.size))
      clear hb11
      go_wp2_with fail
      refine (among_any _ was w11 (S2.out.below C11.out)).mono ?_
      rintro e w12 ⟨f, rfl, ht, hb12⟩
      have T12 := hide ht
      have HB12 := hide hb12
      obtain ⟨K12, c12, hf, _, _⟩ := ht
      subst hf
      have C12 := hide (C11.out.trans (hb12.mono C11.out.size))
      have HY12 := hide ((HY10.out.later HB11.out).later hb12)
      clear hb12
      go_wp2_with fail
      refine (Eval_any _ x _ _ _ _ _ w12 HY12.out (T11.out.below HB12.out) T12.out).mono ?_
      rintro e w13 ⟨rfl, hb13⟩
      have C13 := hide (C12.out.trans (hb13.mono C12.out.size))
      clear hb13
      rw [HEV.out]
      go_wp2_with fail
      go_ret
      exact ⟨ret_bool (by simp), C13.out⟩
end Go.Proofs.Ytmjlpcedeonhaaa
