/-
  The walks of strings.Clone, of the closures that make a name's expression, and of the reader's named.
-/
import Derived.Test.YtblfeahbpklgiaaGreatDoorRdBase
import Derived.Test.YtblfeahbpklgiaaGreatDoorExRep
import Derived.Test.YtblfeahbpklgiaaGreatDoorShelf
namespace Go.Proofs.YtblfeahbpklgiaaGreatDoor
open Go.RowKit
theorem Clone_any (s : ByteArray) (w : World) (hs : s.size ≤ 2000) :
    Calls Tryz.prog 93 #[.string s] w fun e w' => e = .returned (.string s) ∧ Below w.heap.size w w' := by
  go_enter Tryz.func93, Tryz.ntmps93
  go_wp2_with (go_at_call 110; refine (Tryz.stringslite_Clone s _ (by omega)).mono ?_; rintro e w' ⟨rfl, hb⟩)
  go_ret
  exact ⟨rfl, hb⟩
theorem made3 (s : ByteArray) (w : World) : Calls Tryz.prog 67 #[.string s] w fun e w' => e = .returned (.iface 90 (.string s)) ∧ w' = w := by
  go_enter Tryz.func67, Tryz.ntmps67
  go_wp2
  go_ret
  exact ⟨rfl, rfl⟩
theorem made4 (s : ByteArray) (w : World) : Calls Tryz.prog 68 #[.string s] w fun e w' => e = .returned (.iface 91 (.string s)) ∧ w' = w := by
  go_enter Tryz.func68, Tryz.ntmps68
  go_wp2
  go_ret
  exact ⟨rfl, rfl⟩
theorem made2 (s : ByteArray) (w : World) : Calls Tryz.prog 69 #[.string s] w fun e w' => e = .returned (.iface 89 (.string s)) ∧ w' = w := by
  go_enter Tryz.func69, Tryz.ntmps69
  go_wp2
  go_ret
  exact ⟨rfl, rfl⟩
/-- a closure that makes a name's expression, of that kind -/
def Makes (K kind : Nat) : Prop := (∀ (args : Array Value) (w : World), (callFunc K args).run Tryz.prog w = .ok (.enter K args) w) ∧ ∃ T, (∀ (n : ByteArray) (w : World), Calls Tryz.prog K #[.string n] w fun e w' => e = .returned (.iface T (.string n)) ∧ w' = w) ∧
  ∀ (ok : Nat → Prop) (w : World) (nm : List UInt8), nm.length ≤ 8 → IsEx ok w ⟨kind, nm, []⟩ (.iface T (.string ⟨nm.toArray⟩))
theorem makes2 : Makes 69 2 := ⟨fun _ _ => by kernel_rfl, _, made2, fun ok w nm h => by simp only [IsEx]; exact ⟨trivial, h, trivial⟩⟩
theorem makes3 : Makes 67 3 := ⟨fun _ _ => by kernel_rfl, _, made3, fun ok w nm h => by simp only [IsEx]; exact ⟨trivial, h, trivial⟩⟩
theorem makes4 : Makes 68 4 := ⟨fun _ _ => by kernel_rfl, _, made4, fun ok w nm h => by simp only [IsEx]; exact ⟨trivial, h, trivial⟩⟩
theorem sg_lt256 (l : List UInt8) (i : Nat) : Ex.sg l i < 256 := by
  unfold Ex.sg
  split
  · exact UInt8.toNat_lt _
  · decide
theorem cut_eq (s : ByteArray) (j k : Nat) : (s.extract j k).data.toList = Ex.cut s.data.toList j k := by
  rw [Lib.extract_data, Ex.cut, List.drop_take]
theorem name_len (l : List UInt8) (h : Nm.name l = true) : l.length ≤ 8 := by
  unfold Nm.name at h
  simp only [Bool.and_eq_true, decide_eq_true_eq] at h
  exact h.1.1.1.2
theorem arr_eq (s : ByteArray) : (⟨s.data.toList.toArray⟩ : ByteArray) = s := rfl
/-- reading a name, at the place of its first sign -/
def nameAt (l : List UInt8) (kind j c : Nat) : Ex.Res Ex :=
  if c = 48 ∨ c = 49 ∨ Ex.ends c = true then .inl (3, j)
  else if Nm.name (Ex.cut l j (Ex.wend l j)) = true then .inr (⟨kind, Ex.cut l j (Ex.wend l j), []⟩, Ex.wend l j)
  else .inl (5, j)
set_option maxHeartbeats 1000000 in
theorem named_any (K kind : Nat) (hK : Makes K kind) (b : Nat) (s : ByteArray) (i d : Nat) (w : World) (h : Rd b s i d w) (hi : i ≤ s.size) (hs : s.size ≤ 2000) :
    Calls Tryz.prog 66 #[.pointer (some ⟨b, 0, none⟩), .func (.func K) #[] #[]] w (Read b s d w (Ex.nameP s.data.toList kind i)) := by
  obtain ⟨hK0, T, hK1, hK2⟩ := hK
  have HK1 := hide hK1
  have HK2 := hide hK2
  clear hK1 hK2
  have HL : Hid (s.data.toList.length = s.size) := by show _ = _; simp
  have H := hide h
  clear h
  have hge := Ex.skip_ge s.data.toList i
  have hle := Ex.skip_le s.data.toList i (by rw [HL.out]; exact hi)
  rw [HL.out] at hle
  have hc := sg_lt256 s.data.toList (Ex.skip s.data.toList i)
  have HP : Hid (Ex.nameP s.data.toList kind i = nameAt s.data.toList kind (Ex.skip s.data.toList i) (Ex.sg s.data.toList (Ex.skip s.data.toList i))) := rfl
  have HS : Hid (∀ W : World, Calls Tryz.prog 27 #[.pointer (some ⟨b, 0, none⟩)] w fun e w' =>
      e = .returned (.int .u8 (Ex.sg s.data.toList (Ex.skip s.data.toList i))) ∧ Rd b s (Ex.skip s.data.toList i) d w' ∧ Keep b w w') := fun _ => sign_any b s i d w H.out hi hs
  have HG : Hid (¬ Ex.skip s.data.toList i < s.size → Ex.ends (Ex.sg s.data.toList (Ex.skip s.data.toList i)) = true) := fun h => by rw [sg_end s _ h]; exact Ex.ends32
  generalize hj : Ex.skip s.data.toList i = j at *
  generalize hcc : Ex.sg s.data.toList j = c at *
  clear hj hcc
  go_enter Tryz.func66, Tryz.ntmps66
  go_wp2_with fail
  refine (HS.out w).mono ?_
  rintro e w1 ⟨rfl, hr1, hk1⟩
  clear HS H
  have HR1 := hide hr1
  have HK := hide hk1
  obtain ⟨c0, c1, c2, f1, f2⟩ := hr1
  clear hk1
  have bad : ∀ (W : World) (err : Nat) (e : Ending) (w' : World), Rd b s j d W → Keep b w W → Ex.nameP s.data.toList kind i = .inl (err, j) → e = .returned (.tuple #[.nilIface, .iface 87 (.pointer (some ⟨W.heap.size, 0, none⟩))]) → w' = W.alloc (.cells #[.int .i64 (err : Int), .int .i64 (j : Int)] 88) → Read b s d w (Ex.nameP s.data.toList kind i) e w' := by
    intro W err e w' hr hk h1 h2 h3
    subst h3
    rw [h1]
    refine ⟨hk.alloc _, _, j, h2, ⟨W.heap.size, by have := hr.lt; omega, rfl, ?_, ?_⟩, hr.below ((Below.refl _ _).alloc (Nat.le_refl _) _)⟩
    · simp [World.cell?_alloc_at]
    · simp [World.cell?_alloc_at]
  have BAD := hide bad
  clear bad
  by_cases q1 : c = 48
  · have HX : Hid (Ex.nameP s.data.toList kind i = .inl (3, j)) := by show _ = _; rw [HP.out, nameAt, if_pos (.inl q1)]
    have e1 : ((c : Int) == 48) = true := beq_iff_eq.2 (by omega)
    clear q1 HP
    go_wp2_with fail
    refine (wrong_any b s j d 3 w1 HR1.out).mono ?_
    rintro e w2 ⟨rfl, rfl⟩
    go_wp2
    go_ret2
    exact BAD.out _ 3 _ _ HR1.out HK.out HX.out rfl rfl
  have e1 : ((c : Int) == 48) = false := beq_eq_false_iff_ne.2 (by omega)
  by_cases q2 : c = 49
  · have HX : Hid (Ex.nameP s.data.toList kind i = .inl (3, j)) := by show _ = _; rw [HP.out, nameAt, if_pos (.inr (.inl q2))]
    have e2 : ((c : Int) == 49) = true := beq_iff_eq.2 (by omega)
    clear q2 HP
    go_wp2_with fail
    refine (wrong_any b s j d 3 w1 HR1.out).mono ?_
    rintro e w2 ⟨rfl, rfl⟩
    go_wp2
    go_ret2
    exact BAD.out _ 3 _ _ HR1.out HK.out HX.out rfl rfl
  have e2 : ((c : Int) == 49) = false := beq_eq_false_iff_ne.2 (by omega)
  cases q3 : Ex.ends c with
  | true =>
    have HX : Hid (Ex.nameP s.data.toList kind i = .inl (3, j)) := by show _ = _; rw [HP.out, nameAt, if_pos (.inr (.inr q3))]
    clear HP
    go_wp2_with fail
    refine (endsWord_any c hc w1).mono ?_
    rintro e w2 ⟨rfl, rfl⟩
    go_wp2_with fail
    refine (wrong_any b s j d 3 w2 HR1.out).mono ?_
    rintro e w3 ⟨rfl, rfl⟩
    go_wp2
    go_ret2
    exact BAD.out _ 3 _ _ HR1.out HK.out HX.out rfl rfl
  | false =>
    have hjs : j < s.size := by
      by_cases hx : j < s.size
      · exact hx
      · have := HG.out hx; rw [q3] at this; cases this
    have HX : Hid (Ex.nameP s.data.toList kind i = if Nm.name (Ex.cut s.data.toList j (Ex.wend s.data.toList j)) = true then .inr (⟨kind, Ex.cut s.data.toList j (Ex.wend s.data.toList j), []⟩, Ex.wend s.data.toList j) else .inl (5, j)) := by
      show _ = _
      rw [HP.out, nameAt, if_neg (by rw [q3]; simp [q1, q2])]
    clear HP
    go_wp2_with fail
    refine (endsWord_any c hc w1).mono ?_
    rintro e w2 ⟨rfl, rfl⟩
    clear q1 q2
    go_wp2_with fail
    go_loop [7] (fun t => ∃ k : Nat, j ≤ k ∧ k ≤ s.size ∧ t = .int .i64 (k : Int) ∧ Ex.wend s.data.toList k = Ex.wend s.data.toList j) (fun t => s.size - (intOf t).toNat)
    case atStart => exact ⟨j, Nat.le_refl _, by omega, rfl, rfl⟩
    case round =>
      obtain ⟨k, hjk, hks, rfl, hw⟩ := hrel
      have HW := hide hw
      clear hw
      by_cases hlt : k < s.size
      · have hlt' : (k : Int) < (s.size : Int) := by omega
        cases hb : Ex.ends s[k].toNat with
        | false =>
          have HN : Hid (Ex.wend s.data.toList (k + 1) = Ex.wend s.data.toList j) := by
            show _ = _
            rw [← HW.out]
            exact (Ex.wend_on s.data.toList k (by rw [HL.out]; exact hlt) (by rw [getD_byte s k hlt]; exact hb)).symm
          go_wp2_with fail
          refine (endsWord_any s[k].toNat (UInt8.toNat_lt _) w2).mono ?_
          rintro e w3 ⟨rfl, rfl⟩
          go_wp2_with fail
          go_round
          case rel => exact ⟨k + 1, by omega, by omega, by go_num, HN.out⟩
          case measure => simp [intOf]; omega
        | true =>
          have HN : Hid (Ex.wend s.data.toList j = k) := by
            show _ = _
            rw [← HW.out]
            exact Ex.wend_stop s.data.toList k (by rw [HL.out]; exact hlt) (by rw [getD_byte s k hlt]; exact hb)
          go_wp2_with fail
          refine (endsWord_any s[k].toNat (UInt8.toNat_lt _) w2).mono ?_
          rintro e w3 ⟨rfl, rfl⟩
          go_wp2_with fail
          go_quiet (fail)
          go_wp2_with fail
          refine (Name_any (s.extract j k) _ (by simp [maxLen]; omega)).mono ?_
          rintro e w4 ⟨rfl, rfl⟩
          cases hnm : Nm.name (s.extract j k).data.toList with
          | false =>
            have HB : Hid (Ex.nameP s.data.toList kind i = .inl (5, j)) := by
              show _ = _
              rw [HX.out, HN.out, ← cut_eq, hnm]; rfl
            go_wp2_with fail
            refine (wrong_any b s j d 5 _ (HR1.out.drewN _)).mono ?_
            rintro e w5 ⟨rfl, rfl⟩
            go_wp2
            go_ret2
            exact BAD.out _ 5 _ _ (HR1.out.drewN _) (HK.out.drewN _) HB.out rfl rfl
          | true =>
            have HB : Hid (Ex.nameP s.data.toList kind i = .inr (⟨kind, (s.extract j k).data.toList, []⟩, k)) := by
              show _ = _
              rw [HX.out, HN.out, ← cut_eq, hnm]; rfl
            have H8 : Hid ((s.extract j k).data.toList.length ≤ 8) := name_len _ hnm
            clear hnm
            go_wp2_with fail
            refine (Clone_any (s.extract j k) _ (by simp; omega)).mono ?_
            rintro e w5 ⟨rfl, hb5⟩
            have HB5 := hide hb5
            clear hb5
            go_wp2_with fail
            refine (HK1.out (s.extract j k) w5).mono ?_
            rintro e w6 ⟨rfl, rfl⟩
            go_wp2_with fail
            go_ret2
            rw [HB.out]
            have HE := HK2.out (fun g => w.heap.size ≤ g) w6 _ H8.out
            rw [arr_eq] at HE
            exact ⟨((HK.out.setCell rfl _).drewN _).trans (Keep.of_below HB5.out), _, rfl, HE, ((HR1.out.set1 k).drewN _).below HB5.out⟩
      · have HN : Hid (Ex.wend s.data.toList j = k) := by
          show _ = _
          rw [← HW.out]
          exact Ex.wend_end s.data.toList k (by rw [HL.out]; omega)
        go_wp2_with fail
        go_quiet (fail)
        go_wp2_with fail
        refine (Name_any (s.extract j k) _ (by simp [maxLen]; omega)).mono ?_
        rintro e w4 ⟨rfl, rfl⟩
        cases hnm : Nm.name (s.extract j k).data.toList with
        | false =>
          have HB : Hid (Ex.nameP s.data.toList kind i = .inl (5, j)) := by
            show _ = _
            rw [HX.out, HN.out, ← cut_eq, hnm]; rfl
          go_wp2_with fail
          refine (wrong_any b s j d 5 _ (HR1.out.drewN _)).mono ?_
          rintro e w5 ⟨rfl, rfl⟩
          go_wp2
          go_ret2
          exact BAD.out _ 5 _ _ (HR1.out.drewN _) (HK.out.drewN _) HB.out rfl rfl
        | true =>
          have HB : Hid (Ex.nameP s.data.toList kind i = .inr (⟨kind, (s.extract j k).data.toList, []⟩, k)) := by
            show _ = _
            rw [HX.out, HN.out, ← cut_eq, hnm]; rfl
          have H8 : Hid ((s.extract j k).data.toList.length ≤ 8) := name_len _ hnm
          clear hnm
          go_wp2_with fail
          refine (Clone_any (s.extract j k) _ (by simp; omega)).mono ?_
          rintro e w5 ⟨rfl, hb5⟩
          have HB5 := hide hb5
          clear hb5
          go_wp2_with fail
          refine (HK1.out (s.extract j k) w5).mono ?_
          rintro e w6 ⟨rfl, rfl⟩
          go_wp2_with fail
          go_ret2
          rw [HB.out]
          have HE := HK2.out (fun g => w.heap.size ≤ g) w6 _ H8.out
          rw [arr_eq] at HE
          exact ⟨((HK.out.setCell rfl _).drewN _).trans (Keep.of_below HB5.out), _, rfl, HE, ((HR1.out.set1 k).drewN _).below HB5.out⟩
end Go.Proofs.YtblfeahbpklgiaaGreatDoor
