/-
  The walk of ExprSays: what an expression says, its names, edges and size are the document's.
-/
import Derived.Test.YtmjlpcedeonhaaaGreatDoorLwRead
import Derived.Test.YtmjlpcedeonhaaaGreatDoorLwAmong
import Derived.Test.YtmjlpcedeonhaaaGreatDoorNdNamed
namespace Go.Proofs.YtmjlpcedeonhaaaGreatDoor
open Go.RowKit
theorem IsEx.on {ok : Nat → Prop} {w w' : World} {x : Ex} {v : Value} (h : IsEx ok w x v) (hb : Below w.heap.size w w') : IsEx (fun _ => True) w' x v := IsEx.stay (Stay.below hb) (fun _ _ => trivial) x v h
theorem cell_on {w w' : World} {p : Addr} {u : Value} (h : w.cell? p = some u) (hb : Below w.heap.size w w') : w'.cell? p = some u := (hb.cell (World.block_lt_of_cell? _ _ h)).trans h
set_option maxHeartbeats 8000000 in
set_option maxRecDepth 100000 in
theorem exprSays_any (s : ByteArray) (hs : s.size ≤ maxLen) (a1 a2 : Option Addr) (n1 c1 n2 c2 : Nat) (hn1 : n1 ≤ 9223372036854775807) (hn2 : n2 ≤ 9223372036854775807) (is was : List ByteArray) (m : Int) (w : World)
    (h1 : n1 ≤ 30 → Strs w (.slice a1 n1 c1) is) (h2 : n2 ≤ 30 → Strs w (.slice a2 n2 c2) was) (hf : Fine w) (hm : w.cell? ⟨1, 0, none⟩ = some (.int .i64 m)) :
    Calls Tryz.prog 3 #[.string s, .slice a1 n1 c1, .slice a2 n2 c2] w fun e w' => e = .returned (.bool true) ∧ Below w.heap.size w w' := by
  have HP := hide (read_any s w hs hf)
  have HM := hide hm
  have HH1 := hide h1
  have HH2 := hide h2
  clear hs h1 h2 hf hm
  go_enter Tryz.func3, Tryz.ntmps3
  go_wp2_with fail
  refine HP.out.mono ?_
  rintro e w1 ⟨hb1, rfl | ⟨x, v, g, rfl, hx, hr, hxs⟩⟩
  · have HB1 := hide hb1
    clear hb1 HP
    go_wp2_with fail
    go_ret
    exact ⟨rfl, HB1.out⟩
  · have HB1 := hide hb1
    have HX1 := hide hx
    have HR1 := hide hr
    have HXS := hide hxs
    obtain ⟨tu, yu, hiu⟩ := IsEx.iface _ v hx
    subst hiu
    clear hb1 hx hr hxs HP
    by_cases q2 : 30 < n1
    · have q2' : (30 : Int) < (n1 : Int) := by omega
      go_wp2_with fail
      go_ret
      exact ⟨rfl, HB1.out⟩
    have q2' : ¬ (30 : Int) < (n1 : Int) := by omega
    by_cases q3 : 30 < n2
    · have q3' : (30 : Int) < (n2 : Int) := by omega
      go_wp2_with fail
      go_ret
      exact ⟨rfl, HB1.out⟩
    have q3' : ¬ (30 : Int) < (n2 : Int) := by omega
    have S1 := hide ((HH1.out (by omega)).below HB1.out)
    have S2 := hide ((HH2.out (by omega)).below HB1.out)
    have HM1 := hide (cell_on HM.out HB1.out)
    clear HH1 HH2 HM q2 q3
    go_wp2_with fail
    refine (among_any _ _ w1 S1.out).mono ?_
    rintro e w2 ⟨f2, rfl, ht2, hb2⟩
    have HT2 := hide ht2
    have HB2 := hide hb2
    obtain ⟨K2, k2, hf2, _, _⟩ := ht2
    subst hf2
    clear hb2
    go_wp2_with fail
    refine (among_any _ _ w2 (S2.out.below HB2.out)).mono ?_
    rintro e w3 ⟨f3, rfl, ht3, hb3⟩
    have HT3 := hide ht3
    have HB3 := hide hb3
    obtain ⟨K3, k3, hf3, _, _⟩ := ht3
    subst hf3
    clear hb3
    have HB13 := hide (HB2.out.trans (HB3.out.mono HB2.out.size))
    go_wp2_with fail
    refine (Eval_any _ x _ _ _ _ _ w3 (HX1.out.on HB13.out) (HT2.out.below HB3.out) HT3.out).mono ?_
    rintro e w4 ⟨rfl, hb4⟩
    have HB14 := hide (HB13.out.trans (hb4.mono HB13.out.size))
    clear hb4
    go_wp2_with fail
    refine (among_any _ _ w4 (S1.out.below HB14.out)).mono ?_
    rintro e w5 ⟨f5, rfl, ht5, hb5⟩
    have HT5 := hide ht5
    have HB5 := hide hb5
    obtain ⟨K5, k5, hf5, _, _⟩ := ht5
    subst hf5
    clear hb5
    have HB15 := hide (HB14.out.trans (HB5.out.mono HB14.out.size))
    go_wp2_with fail
    refine (among_any _ _ w5 (S2.out.below HB15.out)).mono ?_
    rintro e w6 ⟨f6, rfl, ht6, hb6⟩
    have HT6 := hide ht6
    have HB6 := hide hb6
    obtain ⟨K6, k6, hf6, _, _⟩ := ht6
    subst hf6
    clear hb6
    have HB16 := hide (HB15.out.trans (HB6.out.mono HB15.out.size))
    go_wp2_with fail
    refine (reval_any x g _ _ _ _ w6 (HR1.out.later HB16.out) (HT5.out.below HB6.out) HT6.out).mono ?_
    rintro e w7 ⟨rfl, rfl⟩
    generalize x.eval (amongB is) (amongB was) = bv
    have hbe : (bv == bv) = true := by simp
    clear HT2 HT3 HT5 HT6 HB2 HB3 HB5 HB6 HB13 HB14 HB15
    go_wp2_with fail
    refine (Names_any _ x _ w7 (HX1.out.on HB16.out) HXS.out).mono ?_
    rintro e w20 ⟨sv20, rfl, hs20, hb20⟩
    have HS20 := hide hs20
    have HB120 := hide (HB16.out.trans (hb20.mono HB16.out.size))
    obtain ⟨a20, l20, c20, hsv20⟩ : ∃ a n c, sv20 = .slice a n c := by
      rcases hs20 with ⟨_, a, cap, h⟩ | ⟨g, o, cap, h, _⟩
      · exact ⟨_, _, _, h⟩
      · exact ⟨_, _, _, h⟩
    subst hsv20
    clear hs20 hb20
    go_wp2_with fail
    have hm20 := cell_on HM1.out HB120.out
    refine (RNames_any _ x g m w20 (HR1.out.later HB120.out) HXS.out (World.block_lt_of_cell? _ _ hm20) hm20).mono ?_
    rintro e w21 ⟨sv21, rfl, hs21, hb21⟩
    have HS21 := hide hs21
    have HS20' := hide (HS20.out.below hb21)
    have HB121 := hide (HB120.out.trans (hb21.mono HB120.out.size))
    obtain ⟨a21, l21, c21, hsv21⟩ : ∃ a n c, sv21 = .slice a n c := by
      rcases hs21 with ⟨_, a, cap, h⟩ | ⟨g, o, cap, h, _⟩
      · exact ⟨_, _, _, h⟩
      · exact ⟨_, _, _, h⟩
    subst hsv21
    clear hs21 hb21 hm20
    go_wp2_with fail
    refine (sameTexts_any _ _ _ w21 HS20'.out HS21.out).mono ?_
    rintro e w22 ⟨rfl, d22, rfl⟩
    have HB122 := hide (HB121.out.drewM d22)
    clear HS20 HS20' HS21 HB120 HB121
    go_wp2_with fail
    refine (Edges_any _ x _ _ (HX1.out.on HB122.out) HXS.out).mono ?_
    rintro e w30 ⟨sv30, rfl, hs30, hb30⟩
    have HS30 := hide hs30
    have HB130 := hide (HB122.out.trans (hb30.mono HB122.out.size))
    obtain ⟨a30, l30, c30, hsv30⟩ : ∃ a n c, sv30 = .slice a n c := by
      rcases hs30 with ⟨_, a, cap, h⟩ | ⟨g, o, cap, h, _⟩
      · exact ⟨_, _, _, h⟩
      · exact ⟨_, _, _, h⟩
    subst hsv30
    clear hs30 hb30
    go_wp2_with fail
    have hm30 := cell_on HM1.out HB130.out
    refine (REdges_any _ x g m w30 (HR1.out.later HB130.out) HXS.out (World.block_lt_of_cell? _ _ hm30) hm30).mono ?_
    rintro e w31 ⟨sv31, rfl, hs31, hb31⟩
    have HS31 := hide hs31
    have HS30' := hide (HS30.out.below hb31)
    have HB131 := hide (HB130.out.trans (hb31.mono HB130.out.size))
    obtain ⟨a31, l31, c31, hsv31⟩ : ∃ a n c, sv31 = .slice a n c := by
      rcases hs31 with ⟨_, a, cap, h⟩ | ⟨g, o, cap, h, _⟩
      · exact ⟨_, _, _, h⟩
      · exact ⟨_, _, _, h⟩
    subst hsv31
    clear hs31 hb31 hm30
    go_wp2_with fail
    refine (sameTexts_any _ _ _ w31 HS30'.out HS31.out).mono ?_
    rintro e w32 ⟨rfl, d32, rfl⟩
    have HB132 := hide (HB131.out.drewM d32)
    clear HS30 HS30' HS31 HB130 HB131
    go_wp2_with fail
    refine (size_any x _ _ (HX1.out.on HB132.out) HXS.out).mono ?_
    rintro e w40 ⟨rfl, hb40⟩
    have HB140 := hide (HB132.out.trans (hb40.mono HB132.out.size))
    clear hb40 HB132
    go_wp2_with fail
    refine (rsize_any x g w40 (HR1.out.later HB140.out) HXS.out).mono ?_
    rintro e w41 ⟨rfl, rfl⟩
    have hze : ((x.size : Int) == (x.size : Int)) = true := by simp
    go_wp2_with fail
    go_ret
    exact ⟨ret_bool (by first | rfl | simp), HB1.out.trans (HB140.out.mono HB1.out.size)⟩
end Go.Proofs.YtmjlpcedeonhaaaGreatDoor
