/-
  The walks of the law's own read and sameTexts.
-/
import Derived.Test.YtmjlpcedeonhaaaGreatDoorParse
import Derived.Test.YtmjlpcedeonhaaaGreatDoorRpParse
import Derived.Test.YtmjlpcedeonhaaaGreatDoorRsSize
import Derived.Test.YtmjlpcedeonhaaaGreatDoorRtBound
import Derived.Test.YtmjlpcedeonhaaaGreatDoorKeStrs
import Derived.WalkMore
namespace Go.Proofs.YtmjlpcedeonhaaaGreatDoor
open Go.RowKit
set_option maxHeartbeats 1000000 in
set_option maxRecDepth 100000 in
theorem sameTexts_any (sa sb : Value) (ss : List ByteArray) (w : World) (ha : Strs w sa ss) (hb : Strs w sb ss) :
    Calls Tryz.prog 10 #[sa, sb] w fun e w' => e = .returned (.bool true) ∧ ∃ n, w' = w.drewN n := by
  by_cases h0 : ss = []
  · subst h0
    obtain ⟨a, ca, rfl⟩ : ∃ a c, sa = .slice a 0 c := by
      rcases ha with ⟨_, a, c, rfl⟩ | ⟨g, o, cap, rfl, _⟩
      · exact ⟨_, _, rfl⟩
      · exact ⟨_, _, rfl⟩
    obtain ⟨b, cb, rfl⟩ : ∃ a c, sb = .slice a 0 c := by
      rcases hb with ⟨_, a, c, rfl⟩ | ⟨g, o, cap, rfl, _⟩
      · exact ⟨_, _, rfl⟩
      · exact ⟨_, _, rfl⟩
    clear ha hb
    go_enter Tryz.func10, Tryz.ntmps10
    go_wp2_with fail
    go_loop [5] (fun i => i = .int .i64 0) (fun _ => 0)
    case atStart => exact rfl
    case round =>
      obtain rfl := hrel
      go_wp2_with fail
      go_ret
      exact ⟨rfl, 0, rfl⟩
  · rcases ha with ⟨e, _⟩ | ⟨g1, o1, c1, rfl, hc1, hl1, hr1⟩
    · exact absurd e h0
    rcases hb with ⟨e, _⟩ | ⟨g2, o2, c2, rfl, hc2, hl2, hr2⟩
    · exact absurd e h0
    have H1 := hide hr1
    have H2 := hide hr2
    generalize hn : ss.length = n at *
    have HN := hide hn
    have hnn : ((n : Int) != (n : Int)) = false := by simp
    clear hn hr1 hr2 h0
    go_enter Tryz.func10, Tryz.ntmps10
    go_wp2_with fail
    go_loopw [5] (fun i wr => ∃ k d : Nat, k ≤ n ∧ i = .int .i64 (k : Int) ∧ wr = w.drewN d) (fun i _ => n - (intOf i).toNat)
    case atStart => exact ⟨0, 0, Nat.zero_le _, rfl, rfl⟩
    case round =>
      obtain ⟨k, d, hk, rfl, rfl⟩ := hrel
      by_cases hlt : k < n
      · have hkl : k < ss.length := by rw [HN.out]; exact hlt
        have hlt' : (k : Int) < (n : Int) := by omega
        have e1 := H1.out k ss[k] (List.getElem?_eq_getElem hkl)
        have e2 := H2.out k ss[k] (List.getElem?_eq_getElem hkl)
        generalize ss[k] = y at *
        clear hkl
        go_wp2_with fail
        go_quiet (fail)
        go_wp2_with fail
        go_roundw
        case rel => exact ⟨k + 1, d + nq, by omega, by go_num, by first | rfl | simp⟩
        case measure => simp [intOf]; omega
      · have hjn : k = n := by omega
        subst hjn
        go_wp2_with fail
        go_ret
        exact ⟨rfl, d, rfl⟩
/-- what read comes to: nothing, or one expression in the program's form and in the document's -/
def ReadBoth (w : World) (e : Ending) (w' : World) : Prop :=
  Below w.heap.size w w' ∧ ((e = .returned (.tuple #[.nilIface, .pointer none, .bool false])) ∨ ∃ x v g, e = .returned (.tuple #[v, .pointer (some ⟨g, 0, none⟩), .bool true]) ∧ IsEx (fun _ => True) w' x v ∧ IsRx (fun _ => True) w' x g ∧ x.size ≤ 1000000)
set_option maxHeartbeats 2000000 in
set_option maxRecDepth 100000 in
theorem read_any (s : ByteArray) (w : World) (hs : s.size ≤ maxLen) (hf : Fine w) : Calls Tryz.prog 5 #[.string s] w (ReadBoth w) := by
  have hs' : s.size ≤ maxLen := hs
  unfold maxLen at hs
  by_cases h2 : 1000 < s.size
  · have h2' : (1000 : Int) < (s.size : Int) := by omega
    clear hf
    go_enter Tryz.func5, Tryz.ntmps5
    go_wp2_with fail
    refine bodyPost_ret_by (v := .tuple #[.nilIface, .pointer none, .bool false]) ?_ rfl ⟨Below.refl _ _, .inl rfl⟩
    simp [results, Tryz.results5, go_sem]
  · have h2' : ¬ (1000 : Int) < (s.size : Int) := by omega
    have HR := hide (ExprParse_any s w hs' hf)
    have HP := hide (fun w1 => Parse_any s w1 hs')
    have HSZ := hide (fun x h => Ex.parse_bnd s.data.toList x h)
    generalize Ex.parse s.data.toList = r at *
    clear hf
    match r, HR, HP, HSZ with
    | .inl (err, none), HR, HP, _ =>
      go_enter Tryz.func5, Tryz.ntmps5
      go_wp2_with fail
      refine HR.out.mono ?_
      rintro e w1 ⟨hb, rfl, he⟩
      have heb : ((err : Int) != 0) = true := by simp; omega
      have HB := hide hb
      unfold faultV
      clear hb he HR HP
      go_wp2_with fail
      refine bodyPost_ret_by (v := .tuple #[.nilIface, .pointer none, .bool false]) ?_ rfl ⟨?_, .inl rfl⟩
      · simp [results, Tryz.results5, go_sem]
      · exact HB.out.alloc HB.out.size _
    | .inl (err, some p), HR, HP, _ =>
      go_enter Tryz.func5, Tryz.ntmps5
      go_wp2_with fail
      refine HR.out.mono ?_
      rintro e w1 ⟨hb, rfl, he⟩
      have heb : ((err : Int) != 0) = true := by simp; omega
      have HB := hide hb
      unfold faultV
      clear hb he HR HP
      go_wp2_with fail
      refine bodyPost_ret_by (v := .tuple #[.nilIface, .pointer none, .bool false]) ?_ rfl ⟨?_, .inl rfl⟩
      · simp [results, Tryz.results5, go_sem]
      · exact HB.out.alloc HB.out.size _
    | .inr x, HR, HP, HSZ =>
      have hx := HSZ.out x rfl
      have HXS : Hid (x.size ≤ 1000000) := by show _ ≤ _; omega
      clear hx
      go_enter Tryz.func5, Tryz.ntmps5
      go_wp2_with fail
      refine HR.out.mono ?_
      rintro e w1 ⟨hb, g, rfl, hg⟩
      have HB := hide hb
      have HG := hide hg
      unfold faultV
      clear hb hg HR HSZ
      go_wp2_with fail
      refine (HP.out _).mono ?_
      rintro e w2 ⟨hb2, v, rfl, hv⟩
      have HB2 := hide hb2
      have HV := hide hv
      obtain ⟨tu, yu, hiu⟩ := IsEx.iface _ v hv
      subst hiu
      clear hb2 hv HP
      go_wp2_with fail
      have hb0 : Below w1.heap.size w1 w2 := ((Below.refl _ w1).alloc (Nat.le_refl _) _).trans (HB2.out.mono (by simp))
      refine bodyPost_ret_by (v := .tuple #[.iface tu yu, .pointer (some ⟨g, 0, none⟩), .bool true]) ?_ rfl ⟨HB.out.trans (hb0.mono HB.out.size), .inr ⟨x, _, g, rfl, ?_, HG.out.later hb0, HXS.out⟩⟩
      · simp [results, Tryz.results5, go_sem]
      · exact IsEx.stay (ok := fun g => _ ≤ g) (fun g i u _ hc => hc) (fun _ _ => trivial) x _ HV.out
end Go.Proofs.YtmjlpcedeonhaaaGreatDoor
