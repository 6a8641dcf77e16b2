/-
  The walk of the statements' own read: a text as an expression, by both, and what was read.
-/
import Derived.Test.YtblfeahbpklgiaaGreatDoorParse
import Derived.Test.YtblfeahbpklgiaaGreatDoorRpParse
import Derived.Test.YtblfeahbpklgiaaGreatDoorEvWithinAll
import Derived.Test.YtblfeahbpklgiaaGreatDoorRtBound
import Derived.Test.YtblfeahbpklgiaaGreatDoorCvMathAll
import Derived.WalkMore
namespace Go.Proofs.YtblfeahbpklgiaaGreatDoor
open Go.RowKit
/-- what read comes to: nothing, or one expression in the program's form and in the document's -/
def ReadBothP (w : World) (e : Ending) (w' : World) : Prop :=
  Below w.heap.size w w' ∧ ((e = .returned (.tuple #[.nilIface, .pointer none, .bool false])) ∨ ∃ x v g, e = .returned (.tuple #[v, .pointer (some ⟨g, 0, none⟩), .bool true]) ∧ IsEx (fun _ => True) w' x v ∧ IsRx (fun _ => True) w' x g ∧ x.size ≤ 1000000 ∧ ∃ l, Ex.parse l = .inr x)
set_option maxHeartbeats 2000000 in
set_option maxRecDepth 100000 in
theorem readP_any (s : ByteArray) (w : World) (hs : s.size ≤ maxLen) (hf : Fine w) : Calls Tryz.prog 4 #[.string s] w (ReadBothP w) := by
  have hs' : s.size ≤ maxLen := hs
  unfold maxLen at hs
  by_cases h2 : 1000 < s.size
  · have h2' : (1000 : Int) < (s.size : Int) := by omega
    clear hf
    go_enter Tryz.func4, Tryz.ntmps4
    go_wp2_with fail
    refine bodyPost_ret_by (v := .tuple #[.nilIface, .pointer none, .bool false]) ?_ rfl ⟨Below.refl _ _, .inl rfl⟩
    simp [results, Tryz.results4, go_sem]
  · have h2' : ¬ (1000 : Int) < (s.size : Int) := by omega
    have HR := hide (ExprParse_any s w hs' hf)
    have HP := hide (fun w1 => Parse_any s w1 hs')
    have HSZ := hide (fun x h => Ex.parse_bnd s.data.toList x h)
    obtain ⟨r, hr⟩ : ∃ r, r = Ex.parse s.data.toList := ⟨_, rfl⟩
    have HPR : Hid (∃ l, Ex.parse l = r) := ⟨_, hr.symm⟩
    rw [← hr] at HR HSZ
    have HP2 : Hid (∀ w1, Calls Tryz.prog 11 #[.string s] w1 (Parsed w1 r)) := fun w1 => by have := HP.out w1; rw [← hr] at this; exact this
    clear HP hr
    have HP := HP2
    clear HP2
    clear hf
    match r, HR, HP, HSZ, HPR with
    | .inl (err, none), HR, HP, _, _ =>
      go_enter Tryz.func4, Tryz.ntmps4
      go_wp2_with fail
      refine HR.out.mono ?_
      rintro e w1 ⟨hb, rfl, he⟩
      have heb : ((err : Int) != 0) = true := by simp; omega
      have HB := hide hb
      unfold faultV
      clear hb he HR HP
      go_wp2_with fail
      refine bodyPost_ret_by (v := .tuple #[.nilIface, .pointer none, .bool false]) ?_ rfl ⟨?_, .inl rfl⟩
      · simp [results, Tryz.results4, go_sem]
      · exact HB.out.alloc HB.out.size _
    | .inl (err, some p), HR, HP, _, _ =>
      go_enter Tryz.func4, Tryz.ntmps4
      go_wp2_with fail
      refine HR.out.mono ?_
      rintro e w1 ⟨hb, rfl, he⟩
      have heb : ((err : Int) != 0) = true := by simp; omega
      have HB := hide hb
      unfold faultV
      clear hb he HR HP
      go_wp2_with fail
      refine bodyPost_ret_by (v := .tuple #[.nilIface, .pointer none, .bool false]) ?_ rfl ⟨?_, .inl rfl⟩
      · simp [results, Tryz.results4, go_sem]
      · exact HB.out.alloc HB.out.size _
    | .inr x, HR, HP, HSZ, HPR =>
      have hx := HSZ.out x rfl
      have HXS : Hid (x.size ≤ 1000000) := by show _ ≤ _; omega
      clear hx
      go_enter Tryz.func4, Tryz.ntmps4
      go_wp2_with fail
      refine HR.out.mono ?_
      rintro e w1 ⟨hb, g, rfl, hg⟩
      have HB := hide hb
      have HG := hide hg
      unfold faultV
      clear hb hg HR HSZ
      go_wp2_with fail
      refine (HP.out _).mono ?_
      rintro e w2 ⟨hb2, v, rfl, hv⟩
      have HB2 := hide hb2
      have HV := hide hv
      obtain ⟨tu, yu, hiu⟩ := IsEx.iface _ v hv
      subst hiu
      clear hb2 hv HP
      go_wp2_with fail
      have hb0 : Below w1.heap.size w1 w2 := ((Below.refl _ w1).alloc (Nat.le_refl _) _).trans (HB2.out.mono (by simp))
      refine bodyPost_ret_by (v := .tuple #[.iface tu yu, .pointer (some ⟨g, 0, none⟩), .bool true]) ?_ rfl ⟨HB.out.trans (hb0.mono HB.out.size), .inr ⟨x, _, g, rfl, ?_, HG.out.later hb0, HXS.out, HPR.out⟩⟩
      · simp [results, Tryz.results4, go_sem]
      · exact IsEx.stay (ok := fun g => _ ≤ g) (fun g i u _ hc => hc) (fun _ _ => trivial) x _ HV.out
end Go.Proofs.YtblfeahbpklgiaaGreatDoor
