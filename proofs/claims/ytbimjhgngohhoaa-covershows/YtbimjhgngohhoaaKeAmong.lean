/-
  The walks of the statements' own among: a closure that says whether a name is one of some.
-/
import Derived.Test.YtbimjhgngohhoaaKeStrs
import Derived.Test.YtbimjhgngohhoaaEvEval
namespace Go.Proofs.Ytbimjhgngohhoaa
open Go.RowKit
set_option maxHeartbeats 1000000 in
theorem among1_any (p : Nat) (sv : Value) (ss : List ByteArray) (nm : List UInt8) (w : World) (hc : w.cell? ⟨p, 0, none⟩ = some sv) (hs : Strs w sv ss) :
    Calls Try.prog 24 #[.string ⟨nm.toArray⟩, .pointer (some ⟨p, 0, none⟩)] w fun e w' => e = .returned (.bool (amongB ss nm)) ∧ w' = w := by
  rcases hs with ⟨rfl, a, cap, rfl⟩ | ⟨g, o, cap, rfl, hcap, hlen, hcell⟩
  · go_enter Try.func24, Try.ntmps24
    go_wp2
    go_loop [4] (fun i => i = .int .i64 0) (fun _ => 0)
    case atStart => exact rfl
    case round =>
      obtain rfl := hrel
      go_wp2
      go_ret
      exact ⟨rfl, rfl⟩
  · have HC := hide hcell
    clear hcell
    generalize hn : ss.length = n at *
    have HN := hide hn
    clear hn
    go_enter Try.func24, Try.ntmps24
    go_wp2
    go_loop [4] (fun i => ∃ k : Nat, k ≤ n ∧ i = .int .i64 (k : Int) ∧ amongB (ss.take k) nm = false) (fun i => n - (intOf i).toNat)
    case atStart => exact ⟨0, Nat.zero_le _, rfl, rfl⟩
    case round =>
      obtain ⟨k, hk, rfl, hno⟩ := hrel
      have HNO := hide hno
      clear hno
      by_cases hlt : k < n
      · have hkl : k < ss.length := by rw [HN.out]; exact hlt
        have hcell := HC.out k ss[k] (List.getElem?_eq_getElem hkl)
        have HT : Hid (amongB (ss.take (k + 1)) nm = (ss[k].toList == nm)) := by
          show _ = _
          unfold amongB at *
          rw [List.take_succ_eq_append_getElem hkl, List.any_append, HNO.out]
          simp [ByteArray.toList_eq]
        have HTRUE : Hid ((ss[k].toList == nm) = true → amongB ss nm = true) := fun h => by
          unfold amongB
          rw [List.any_eq_true]
          exact ⟨ss[k], List.getElem_mem hkl, by rw [← ByteArray.toList_eq]; exact h⟩
        generalize ss[k] = s at *
        clear hkl
        have hbl := bytes_list nm
        cases hbt : (s.toList == nm) with
        | true =>
          have HF := hide (HTRUE.out hbt)
          go_wp2
          go_ret
          exact ⟨ret_bool HF.out.symm, rfl⟩
        | false =>
          rw [hbt] at HT
          go_wp2
          go_round
          case rel => exact ⟨k + 1, by omega, by go_num, HT.out⟩
          case measure => simp [intOf]; omega
      · have hjn : k = n := by omega
        have HF : Hid (amongB ss nm = false) := by
          show _ = _
          have := HNO.out
          rwa [List.take_of_length_le (by rw [HN.out]; omega)] at this
        clear hjn
        go_wp2
        go_ret
        exact ⟨ret_bool HF.out.symm, rfl⟩
theorem entered_among1 : Entered 24 := fun _ _ => by kernel_rfl
/-- among: a closure that tells whether a name is one of these -/
theorem among_any (sv : Value) (ss : List ByteArray) (w : World) (hs : Strs w sv ss) :
    Calls Try.prog 10 #[sv] w fun e w' => ∃ f, e = .returned f ∧ Tells f (amongB ss) w' ∧ Below w.heap.size w w' := by
  have hmf : ∀ (fn : Fn) (first cap : Array Value) (w : World), (Instr.makeFunc fn first cap).run Try.prog w = .ok (.func fn first cap) w := fun _ _ _ _ => rfl
  have hb : Below w.heap.size w (w.alloc (.cells #[sv] 33)) := (Below.refl _ w).alloc (Nat.le_refl _) _
  have HS := hide (hs.below hb)
  have HB := hide hb
  obtain ⟨a, n, cap, hsv⟩ : ∃ a n cap, sv = .slice a n cap := by
    rcases hs with ⟨_, a, cap, h⟩ | ⟨g, o, cap, h, _⟩
    · exact ⟨_, _, _, h⟩
    · exact ⟨_, _, _, h⟩
  subst hsv
  clear hs hb
  go_enter Try.func10, Try.ntmps10
  go_wp2
  go_ret
  refine ⟨_, rfl, ⟨24, .pointer (some ⟨w.heap.size, 0, none⟩), rfl, entered_among1, ?_⟩, HB.out⟩
  intro W hW nm
  exact among1_any w.heap.size _ ss nm W (by rw [hW.cell (by simp)]; simp) (HS.out.below hW)
end Go.Proofs.Ytbimjhgngohhoaa
