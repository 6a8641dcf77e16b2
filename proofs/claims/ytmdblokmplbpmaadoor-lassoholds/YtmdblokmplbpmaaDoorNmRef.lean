/-
  The walk of the document's own answer on names (NameCheck).
-/
import Derived.Test.YtmdblokmplbpmaaDoorNmWalk
namespace Go.Proofs.YtmdblokmplbpmaaDoor
open Go.RowKit
theorem dec_nat (n : Nat) : decide (n ≤ 8) = decide ((n : Int) ≤ 8) := by by_cases h : n ≤ 8 <;> simp [h] <;> omega
namespace Nm
/-- the first k signs of a text may be a name's -/
def good (l : List UInt8) (k : Nat) : Bool := upto l k && (k == 0 || lo (sign l 0))
theorem good_zero (l : List UInt8) : good l 0 = true := by simp [good, upto_zero]
theorem good_next (l : List UInt8) (k : Nat) (h : k < l.length) (hg : good l k = true) (c : Int) (hc : sign l k = c) (h0 : k = 0 → lo c = true) (hn : nm c = true) : good l (k + 1) = true := by
  unfold good at *
  rw [upto_succ l k h, hc, hn]
  by_cases e : k = 0
  · subst e; simp [hc, h0 rfl, upto_zero]
  · simp_all
theorem name_of_good (l : List UInt8) (hg : good l l.length = true) : name l = (!(l.isEmpty) && !(kept l) && decide (l.length ≤ 8)) := by
  unfold good at hg
  rw [Bool.and_eq_true] at hg
  cases l with
  | nil => simp [name]
  | cons a r =>
    have h2 : lo (sign (a :: r) 0) = true := by simpa using hg.2
    unfold name
    rw [hg.1, h2]
    cases decide ((a :: r).length ≤ 8) <;> cases kept (a :: r) <;> simp
end Nm
set_option maxHeartbeats 1000000 in
theorem NameCheck_any (s : ByteArray) (w : World) (hs : s.size ≤ maxLen) :
    Calls Tryd.prog 19 #[.string s] w fun e w' => e = .returned (.bool (Nm.name s.data.toList)) ∧ w' = w := by
  unfold maxLen at hs
  have HL : Hid (s.data.toList.length = s.size) := by show _ = _; simp
  go_enter Tryd.func19, Tryd.ntmps19
  go_wp2
  go_loop [8] (fun i => ∃ k : Nat, k ≤ s.size ∧ i = .int .i64 k ∧ Nm.good s.data.toList k = true) (fun i => s.size - (intOf i).toNat)
  case atStart => exact ⟨0, Nat.zero_le _, rfl, Nm.good_zero _⟩
  case round =>
    obtain ⟨k, hk, rfl, hu⟩ := hrel
    have HU : Hid (Nm.good s.data.toList k = true) := hu
    clear hu
    by_cases hlt : k < s.size
    · have HS : Hid (Nm.sign s.data.toList k = (s[k].toNat : Int)) := sign_byte s k hlt
      have HN : Hid ((k = 0 → Nm.lo (s[k].toNat : Int) = true) → Nm.nm (s[k].toNat : Int) = true → Nm.good s.data.toList (k + 1) = true) := fun a b => Nm.good_next _ k (by rw [HL.out]; exact hlt) HU.out _ HS.out a b
      have HF : Hid (Nm.nm (s[k].toNat : Int) = false → Nm.name s.data.toList = false) := fun a => Nm.no_sign _ k (by rw [HL.out]; exact hlt) (by rw [HS.out]; exact a)
      have HG : Hid (k = 0 → Nm.lo (s[k].toNat : Int) = false → Nm.name s.data.toList = false) := fun a b => Nm.no_first _ (by subst a; rw [HS.out]; exact b)
      by_cases hlo : 97 ≤ (s[k].toNat : Int) ∧ (s[k].toNat : Int) ≤ 122
      · obtain ⟨q1, q2⟩ := hlo
        have e1 : Nm.lo (s[k].toNat : Int) = true := by simp [Nm.lo]; omega
        have HR := HN.out (fun _ => e1) (Nm.lo_nm _ e1)
        clear e1
        have HX := hide HR
        clear HR
        go_wp2
        go_round
        case rel => exact ⟨k + 1, by omega, by go_num, unhide HX⟩
        case measure => simp [intOf]; omega
      · have e1 : Nm.lo (s[k].toNat : Int) = false := by simp [Nm.lo]; omega
        by_cases hk0 : k = 0
        · have HX := hide (HG.out hk0 e1)
          have z : ((k : Int) == 0) = true := beq_iff_eq.2 (by omega)
          clear e1 hk0
          by_cases q1 : 97 ≤ (s[k].toNat : Int)
          · have q2 : ¬ (s[k].toNat : Int) ≤ 122 := fun h => hlo ⟨q1, h⟩
            clear hlo
            go_wp2
            go_ret
            exact ⟨ret_bool (unhide HX).symm, rfl⟩
          · clear hlo
            go_wp2
            go_ret
            exact ⟨ret_bool (unhide HX).symm, rfl⟩
        · have z : ((k : Int) == 0) = false := beq_eq_false_iff_ne.2 (by omega)
          by_cases hd : 48 ≤ (s[k].toNat : Int) ∧ (s[k].toNat : Int) ≤ 57
          · obtain ⟨q1, q2⟩ := hd
            have q3 : ¬ 97 ≤ (s[k].toNat : Int) := by omega
            have e2 : Nm.nm (s[k].toNat : Int) = true := by simp [Nm.nm, Nm.di]; omega
            have HX := hide (HN.out (fun h => absurd h hk0) e2)
            clear e1 e2 hk0 hlo
            go_wp2
            go_round
            case rel => exact ⟨k + 1, by omega, by go_num, unhide HX⟩
            case measure => simp [intOf]; omega
          · by_cases h9 : (s[k].toNat : Int) = 95
            · have e2 : Nm.nm (s[k].toNat : Int) = true := by simp [Nm.nm]; omega
              have HX := hide (HN.out (fun h => absurd h hk0) e2)
              have q1 : ¬ 97 ≤ (s[k].toNat : Int) := by omega
              have q2 : 48 ≤ (s[k].toNat : Int) := by omega
              have q3 : ¬ (s[k].toNat : Int) ≤ 57 := by omega
              have q4 : ((s[k].toNat : Int) == 95) = true := beq_iff_eq.2 h9
              clear e1 e2 hk0 hlo hd h9
              go_wp2
              go_round
              case rel => exact ⟨k + 1, by omega, by go_num, unhide HX⟩
              case measure => simp [intOf]; omega
            · have e2 : Nm.nm (s[k].toNat : Int) = false := by simp [Nm.nm, e1, Nm.di]; omega
              have HX := hide (HF.out e2)
              have q4 : ((s[k].toNat : Int) == 95) = false := beq_eq_false_iff_ne.2 h9
              clear e1 e2 hk0 h9
              by_cases q1 : 97 ≤ (s[k].toNat : Int)
              · have q2 : ¬ (s[k].toNat : Int) ≤ 122 := fun h => hlo ⟨q1, h⟩
                have q3 : 48 ≤ (s[k].toNat : Int) := by omega
                have q5 : ¬ (s[k].toNat : Int) ≤ 57 := by omega
                clear hlo hd
                go_wp2
                go_ret
                exact ⟨ret_bool (unhide HX).symm, rfl⟩
              · by_cases q3 : 48 ≤ (s[k].toNat : Int)
                · have q5 : ¬ (s[k].toNat : Int) ≤ 57 := fun h => hd ⟨q3, h⟩
                  clear hlo hd
                  go_wp2
                  go_ret
                  exact ⟨ret_bool (unhide HX).symm, rfl⟩
                · clear hlo hd
                  go_wp2
                  go_ret
                  exact ⟨ret_bool (unhide HX).symm, rfl⟩
    · have hk' : k = s.size := by omega
      have HX : Hid (Nm.name s.data.toList = (!(s.toList.isEmpty) && !(Nm.kept s.toList) && decide ((s.size : Int) ≤ 8))) := by
        show _ = _
        rw [Nm.name_of_good _ (by rw [HL.out, ← hk']; exact HU.out), ByteArray.toList_eq, HL.out]
        rw [dec_nat]
      clear HU HL hk'
      go_wp2
      all_goals
        go_ret
        exact ⟨ret_bool (by rw [unhide HX]; simp_all [Nm.kept]), rfl⟩
end Go.Proofs.YtmdblokmplbpmaaDoor
