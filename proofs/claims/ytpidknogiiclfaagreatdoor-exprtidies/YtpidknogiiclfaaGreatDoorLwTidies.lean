/-
  The walk of ExprTidies: an expression made tidy is the document's.
-/
import Derived.Test.YtpidknogiiclfaaGreatDoorParse
import Derived.Test.YtpidknogiiclfaaGreatDoorRpParse
import Derived.Test.YtpidknogiiclfaaGreatDoorRtListB
import Derived.Test.YtpidknogiiclfaaGreatDoorTdTidy
import Derived.WalkMore
namespace Go.Proofs.YtpidknogiiclfaaGreatDoor
open Go.RowKit
def ReadTd (w : World) (e : Ending) (w' : World) : Prop :=
  Below w.heap.size w w' ∧ ((e = .returned (.tuple #[.nilIface, .pointer none, .bool false])) ∨ ∃ x v g, e = .returned (.tuple #[v, .pointer (some ⟨g, 0, none⟩), .bool true]) ∧ IsEx (fun _ => True) w' x v ∧ IsRx (fun _ => True) w' x g ∧ x.size ≤ 1000 ∧ Ex.Wf x)
set_option maxHeartbeats 2000000 in
set_option maxRecDepth 100000 in
theorem readTd_any (s : ByteArray) (w : World) (hs : s.size ≤ maxLen) (hf : Fine w) : Calls Tryz.prog 5 #[.string s] w (ReadTd w) := by
  have hs' : s.size ≤ maxLen := hs
  unfold maxLen at hs
  by_cases h2 : 1000 < s.size
  · have h2' : (1000 : Int) < (s.size : Int) := by omega
    clear hf
    go_enter Tryz.func5, Tryz.ntmps5
    go_wp2_with fail
    refine bodyPost_ret_by (v := .tuple #[.nilIface, .pointer none, .bool false]) ?_ rfl ⟨Below.refl _ _, .inl rfl⟩
    simp [results, Tryz.results5, go_sem]
  · have h2' : ¬ (1000 : Int) < (s.size : Int) := by omega
    have HR := hide (ExprParse_any s w hs' hf)
    have HP := hide (fun w1 => Parse_any s w1 hs')
    have HSZ := hide (fun x h => (⟨Ex.parse_bnd s.data.toList x h, Ex.parse_wf _ x h⟩ : _ ∧ _))
    have hsl : s.data.toList.length = s.size := Array.length_toList
    rw [hsl] at HSZ
    generalize Ex.parse s.data.toList = r at *
    clear hf
    match r, HR, HP, HSZ with
    | .inl (err, none), HR, HP, _ =>
      go_enter Tryz.func5, Tryz.ntmps5
      go_wp2_with fail
      refine HR.out.mono ?_
      rintro e w1 ⟨hb, rfl, he⟩
      have heb : ((err : Int) != 0) = true := by simp; omega
      have HB := hide hb
      unfold faultV
      clear hb he HR HP
      go_wp2_with fail
      refine bodyPost_ret_by (v := .tuple #[.nilIface, .pointer none, .bool false]) ?_ rfl ⟨?_, .inl rfl⟩
      · simp [results, Tryz.results5, go_sem]
      · exact HB.out.alloc HB.out.size _
    | .inl (err, some p), HR, HP, _ =>
      go_enter Tryz.func5, Tryz.ntmps5
      go_wp2_with fail
      refine HR.out.mono ?_
      rintro e w1 ⟨hb, rfl, he⟩
      have heb : ((err : Int) != 0) = true := by simp; omega
      have HB := hide hb
      unfold faultV
      clear hb he HR HP
      go_wp2_with fail
      refine bodyPost_ret_by (v := .tuple #[.nilIface, .pointer none, .bool false]) ?_ rfl ⟨?_, .inl rfl⟩
      · simp [results, Tryz.results5, go_sem]
      · exact HB.out.alloc HB.out.size _
    | .inr x, HR, HP, HSZ =>
      have hx := HSZ.out x rfl
      have HXS : Hid (x.size ≤ 1000 ∧ Ex.Wf x) := ⟨by omega, hx.2⟩
      clear hx
      go_enter Tryz.func5, Tryz.ntmps5
      go_wp2_with fail
      refine HR.out.mono ?_
      rintro e w1 ⟨hb, g, rfl, hg⟩
      have HB := hide hb
      have HG := hide hg
      unfold faultV
      clear hb hg HR HSZ
      go_wp2_with fail
      refine (HP.out _).mono ?_
      rintro e w2 ⟨hb2, v, rfl, hv⟩
      have HB2 := hide hb2
      have HV := hide hv
      obtain ⟨tu, yu, hiu⟩ := IsEx.iface _ v hv
      subst hiu
      clear hb2 hv HP
      go_wp2_with fail
      have hb0 : Below w1.heap.size w1 w2 := ((Below.refl _ w1).alloc (Nat.le_refl _) _).trans (HB2.out.mono (by simp))
      refine bodyPost_ret_by (v := .tuple #[.iface tu yu, .pointer (some ⟨g, 0, none⟩), .bool true]) ?_ rfl ⟨HB.out.trans (hb0.mono HB.out.size), .inr ⟨x, _, g, rfl, ?_, HG.out.on hb0, HXS.out⟩⟩
      · simp [results, Tryz.results5, go_sem]
      · exact IsEx.stay (ok := fun g => _ ≤ g) (fun g i u _ hc => hc) (fun _ _ => trivial) x _ HV.out
set_option maxHeartbeats 8000000 in
set_option maxRecDepth 100000 in
theorem exprTidies_any (s : ByteArray) (hs : s.size ≤ maxLen) (w : World) (hf : Fine w) (hp : Pow w) :
    Calls Tryz.prog 4 #[.string s] w fun e w' => e = .returned (.bool true) ∧ Below w.heap.size w w' := by
  have HP := hide (readTd_any s w hs hf)
  have HPW := hide hp
  clear hs hf hp
  go_enter Tryz.func4, Tryz.ntmps4
  go_wp2_with fail
  refine HP.out.mono ?_
  rintro e w1 ⟨hb1, rfl | ⟨x, v, g, rfl, hx, hr, hxs, hwf⟩⟩
  · have HB1 := hide hb1
    clear hb1 HP
    go_wp2_with fail
    go_ret
    exact ⟨rfl, HB1.out⟩
  · have HB1 := hide hb1
    have HR1 := hide hr
    have P1 := HPW.out.block (hb1.block _ HPW.out.lt)
    have hcx : Ex.cost x ≤ 1000000 := Nat.le_trans (Ex.cost_le x) (Nat.le_trans (Nat.mul_le_mul hxs hxs) (by decide))
    have HC1 := hide (Tidy_any x v w1 hx P1 hwf hcx)
    have hst := Ex.size_tidy x hwf
    have htt : x.tidy.text.length ≤ 1000000 := by have := text_size x.tidy (Ex.Td.wf _ (Ex.td_tidy x hwf)); omega
    have HWF := hide hwf
    obtain ⟨tu, yu, hiu⟩ := IsEx.iface _ v hx
    subst hiu
    clear hb1 hx hr HP P1 hwf
    go_wp2_with fail
    refine HC1.out.mono ?_
    rintro e w2 ⟨v2, rfl, hx2, hb2⟩
    have HC2 := hide (Text_any _ x.tidy v2 w2 hx2 htt)
    have HB2 := hide (HB1.out.trans (hb2.mono HB1.out.size))
    have HR2 := hide (HR1.out.on hb2)
    obtain ⟨t2, y2, hi2⟩ := IsEx.iface _ v2 hx2
    subst hi2
    clear hx2 hb2 HC1
    go_wp2_with fail
    refine HC2.out.mono ?_
    rintro e w3 ⟨rfl, hb3⟩
    have HB3 := hide (HB2.out.trans (hb3.mono HB2.out.size))
    have HC3 := hide (rtidy_any x (fun q => True ∧ q < w3.heap.size) g w3 (fun _ h => h.2) (IsRx.lt x g (HR2.out.on hb3)) HWF.out (by omega))
    clear hb3 HC2
    go_wp2_with fail
    refine HC3.out.mono ?_
    rintro e w4 ⟨g4, rfl, hx4, hb4⟩
    have HC4 := hide (rtext_any x.tidy g4 w4 (IsRx.stay (Stay.below (Below.refl _ _)) (fun _ _ => trivial) _ _ hx4) htt)
    have HB4 := hide (HB3.out.trans (hb4.mono HB3.out.size))
    clear hx4 hb4 HC3
    generalize x.tidy.text = tx at *
    go_wp2_with fail
    refine HC4.out.mono ?_
    rintro e w5 ⟨rfl, hb5⟩
    have HB5 := hide (HB4.out.trans (hb5.mono HB4.out.size))
    clear hb5 HC4
    go_wp2_with fail
    go_ret
    exact ⟨ret_bool' (by simp), HB5.out⟩
end Go.Proofs.YtpidknogiiclfaaGreatDoor
