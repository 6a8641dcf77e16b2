/-
  The walk of the document's own answer on names (NameCheck). The walk of the document's word: a name, or a fault.
-/
import Derived.Test.YtkpfahbodlfpiaaGreatDoorNmWalkAll
import Derived.Test.YtkpfahbodlfpiaaGreatDoorRpRuneAll
import Derived.Test.YtkpfahbodlfpiaaGreatDoorRdParse
import Derived.Deep.DeepCutAuto
import Derived.Deep.CutBlock
namespace Go.Proofs.YtkpfahbodlfpiaaGreatDoor
section
open Go.RowKit
theorem dec_nat (n : Nat) : decide (n ≤ 8) = decide ((n : Int) ≤ 8) := by by_cases h : n ≤ 8 <;> simp [h] <;> omega
namespace Nm
/-- the first k signs of a text may be a name's -/
def good (l : List UInt8) (k : Nat) : Bool := upto l k && (k == 0 || lo (sign l 0))
theorem good_zero (l : List UInt8) : good l 0 = true := by simp [good, upto_zero]
theorem good_next (l : List UInt8) (k : Nat) (h : k < l.length) (hg : good l k = true) (c : Int) (hc : sign l k = c) (h0 : k = 0 → lo c = true) (hn : nm c = true) : good l (k + 1) = true := by
  unfold good at *
  rw [upto_succ l k h, hc, hn]
  by_cases e : k = 0
  · subst e; simp [hc, h0 rfl, upto_zero]
  · simp_all
theorem name_of_good (l : List UInt8) (hg : good l l.length = true) : name l = (!(l.isEmpty) && !(kept l) && decide (l.length ≤ 8)) := by
  unfold good at hg
  rw [Bool.and_eq_true] at hg
  cases l with
  | nil => simp [name]
  | cons a r =>
    have h2 : lo (sign (a :: r) 0) = true := by simpa using hg.2
    unfold name
    rw [hg.1, h2]
    cases decide ((a :: r).length ≤ 8) <;> cases kept (a :: r) <;> simp
end Nm
set_option maxHeartbeats 1000000 in
theorem NameCheck_any (s : ByteArray) (w : World) (hs : s.size ≤ maxLen) :
    Calls Tryz.prog 84 #[.string s] w fun e w' => e = .returned (.bool (Nm.name s.data.toList)) ∧ w' = w := by
  unfold maxLen at hs
  have HL : Hid (s.data.toList.length = s.size) := by show _ = _; simp
  go_enter Tryz.func84, Tryz.ntmps84
  go_wp2
  go_loop [8] (fun i => ∃ k : Nat, k ≤ s.size ∧ i = .int .i64 k ∧ Nm.good s.data.toList k = true) (fun i => s.size - (intOf i).toNat)
  case atStart => exact ⟨0, Nat.zero_le _, rfl, Nm.good_zero _⟩
  case round =>
    obtain ⟨k, hk, rfl, hu⟩ := hrel
    have HU : Hid (Nm.good s.data.toList k = true) := hu
    clear hu
    by_cases hlt : k < s.size
    · have HS : Hid (Nm.sign s.data.toList k = (s[k].toNat : Int)) := sign_byte s k hlt
      have HN : Hid ((k = 0 → Nm.lo (s[k].toNat : Int) = true) → Nm.nm (s[k].toNat : Int) = true → Nm.good s.data.toList (k + 1) = true) := fun a b => Nm.good_next _ k (by rw [HL.out]; exact hlt) HU.out _ HS.out a b
      have HF : Hid (Nm.nm (s[k].toNat : Int) = false → Nm.name s.data.toList = false) := fun a => Nm.no_sign _ k (by rw [HL.out]; exact hlt) (by rw [HS.out]; exact a)
      have HG : Hid (k = 0 → Nm.lo (s[k].toNat : Int) = false → Nm.name s.data.toList = false) := fun a b => Nm.no_first _ (by subst a; rw [HS.out]; exact b)
      by_cases hlo : 97 ≤ (s[k].toNat : Int) ∧ (s[k].toNat : Int) ≤ 122
      · obtain ⟨q1, q2⟩ := hlo
        have e1 : Nm.lo (s[k].toNat : Int) = true := by simp [Nm.lo]; omega
        have HR := HN.out (fun _ => e1) (Nm.lo_nm _ e1)
        clear e1
        have HX := hide HR
        clear HR
        go_wp2
        go_round
        case rel => exact ⟨k + 1, by omega, by go_num, unhide HX⟩
        case measure => simp [intOf]; omega
      · have e1 : Nm.lo (s[k].toNat : Int) = false := by simp [Nm.lo]; omega
        by_cases hk0 : k = 0
        · have HX := hide (HG.out hk0 e1)
          have z : ((k : Int) == 0) = true := beq_iff_eq.2 (by omega)
          clear e1 hk0
          by_cases q1 : 97 ≤ (s[k].toNat : Int)
          · have q2 : ¬ (s[k].toNat : Int) ≤ 122 := fun h => hlo ⟨q1, h⟩
            clear hlo
            go_wp2
            go_ret
            exact ⟨ret_bool (unhide HX).symm, rfl⟩
          · clear hlo
            go_wp2
            go_ret
            exact ⟨ret_bool (unhide HX).symm, rfl⟩
        · have z : ((k : Int) == 0) = false := beq_eq_false_iff_ne.2 (by omega)
          by_cases hd : 48 ≤ (s[k].toNat : Int) ∧ (s[k].toNat : Int) ≤ 57
          · obtain ⟨q1, q2⟩ := hd
            have q3 : ¬ 97 ≤ (s[k].toNat : Int) := by omega
            have e2 : Nm.nm (s[k].toNat : Int) = true := by simp [Nm.nm, Nm.di]; omega
            have HX := hide (HN.out (fun h => absurd h hk0) e2)
            clear e1 e2 hk0 hlo
            go_wp2
            go_round
            case rel => exact ⟨k + 1, by omega, by go_num, unhide HX⟩
            case measure => simp [intOf]; omega
          · by_cases h9 : (s[k].toNat : Int) = 95
            · have e2 : Nm.nm (s[k].toNat : Int) = true := by simp [Nm.nm]; omega
              have HX := hide (HN.out (fun h => absurd h hk0) e2)
              have q1 : ¬ 97 ≤ (s[k].toNat : Int) := by omega
              have q2 : 48 ≤ (s[k].toNat : Int) := by omega
              have q3 : ¬ (s[k].toNat : Int) ≤ 57 := by omega
              have q4 : ((s[k].toNat : Int) == 95) = true := beq_iff_eq.2 h9
              clear e1 e2 hk0 hlo hd h9
              go_wp2
              go_round
              case rel => exact ⟨k + 1, by omega, by go_num, unhide HX⟩
              case measure => simp [intOf]; omega
            · have e2 : Nm.nm (s[k].toNat : Int) = false := by simp [Nm.nm, e1, Nm.di]; omega
              have HX := hide (HF.out e2)
              have q4 : ((s[k].toNat : Int) == 95) = false := beq_eq_false_iff_ne.2 h9
              clear e1 e2 hk0 h9
              by_cases q1 : 97 ≤ (s[k].toNat : Int)
              · have q2 : ¬ (s[k].toNat : Int) ≤ 122 := fun h => hlo ⟨q1, h⟩
                have q3 : 48 ≤ (s[k].toNat : Int) := by omega
                have q5 : ¬ (s[k].toNat : Int) ≤ 57 := by omega
                clear hlo hd
                go_wp2
                go_ret
                exact ⟨ret_bool (unhide HX).symm, rfl⟩
              · by_cases q3 : 48 ≤ (s[k].toNat : Int)
                · have q5 : ¬ (s[k].toNat : Int) ≤ 57 := fun h => hd ⟨q3, h⟩
                  clear hlo hd
                  go_wp2
                  go_ret
                  exact ⟨ret_bool (unhide HX).symm, rfl⟩
                · clear hlo hd
                  go_wp2
                  go_ret
                  exact ⟨ret_bool (unhide HX).symm, rfl⟩
    · have hk' : k = s.size := by omega
      have HX : Hid (Nm.name s.data.toList = (!(s.toList.isEmpty) && !(Nm.kept s.toList) && decide ((s.size : Int) ≤ 8))) := by
        show _ = _
        rw [Nm.name_of_good _ (by rw [HL.out, ← hk']; exact HU.out), ByteArray.toList_eq, HL.out]
        rw [dec_nat]
      clear HU HL hk'
      go_wp2
      all_goals
        go_ret
        exact ⟨ret_bool (by rw [unhide HX]; simp_all [Nm.kept]), rfl⟩
end
section
open Go.RowKit
/-- a word, at the place of its first sign -/
def wordAt (l : List UInt8) (j c : Nat) : (Nat × Nat) ⊕ (List UInt8 × Nat) :=
  if c = 48 ∨ c = 49 ∨ Ex.ends c = true then .inl (3, j)
  else if Nm.name (Ex.cut l j (Ex.wend l j)) = true then .inr (Ex.cut l j (Ex.wend l j), Ex.wend l j)
  else .inl (5, j)
def wordP (l : List UInt8) (i : Nat) : (Nat × Nat) ⊕ (List UInt8 × Nat) := wordAt l (Ex.skip l i) (Ex.sg l (Ex.skip l i))
def asName (kind : Nat) : (Nat × Nat) ⊕ (List UInt8 × Nat) → Ex.Res Ex
  | .inl e => .inl e
  | .inr (n, m) => .inr (⟨kind, n, []⟩, m)
theorem nameP_word (l : List UInt8) (kind i : Nat) : Ex.nameP l kind i = asName kind (wordP l i) := by
  unfold Ex.nameP wordP wordAt
  simp only
  split
  · rfl
  · split <;> rfl
/-- what word comes to in memory -/
def Word (b : Nat) (s : ByteArray) (w : World) (r : (Nat × Nat) ⊕ (List UInt8 × Nat)) (e : Ending) (w' : World) : Prop :=
  Keep b w w' ∧
  match r with
  | .inl (err, p) => ∃ t, e = .returned (.string t) ∧ p ≤ s.size ∧ Rp b s p (err : Int) (p : Int) w'
  | .inr (n, m) => e = .returned (.string ⟨n.toArray⟩) ∧ Rp b s m 0 (-1) w'
set_option maxHeartbeats 2000000 in
set_option maxRecDepth 100000 in
theorem word_any (b : Nat) (s : ByteArray) (i : Nat) (w : World) (h : Rp b s i 0 (-1) w) (hi : i ≤ s.size) (hs : s.size ≤ 2000) :
    Calls Tryz.prog 157 #[.pointer (some ⟨b, 0, none⟩)] w (Word b s w (wordP s.data.toList i)) := by
  have HL : Hid (s.data.toList.length = s.size) := by show _ = _; simp
  have HS := hide (rskip_any b s i 0 (-1) w h hi hs)
  have hle := Ex.skip_le s.data.toList i (by rw [HL.out]; exact hi)
  rw [HL.out] at hle
  have HSK : Hid (Ex.skip s.data.toList (Ex.skip s.data.toList i) = Ex.skip s.data.toList i) := skip_skip _ _ (by rw [HL.out]; exact hi)
  have HP : Hid (wordP s.data.toList i = wordAt s.data.toList (Ex.skip s.data.toList i) (Ex.sg s.data.toList (Ex.skip s.data.toList i))) := rfl
  clear h
  generalize wordP s.data.toList i = r at *
  generalize Ex.skip s.data.toList i = j at *
  go_enter Tryz.func157, Tryz.ntmps157
  go_wp2_with fail
  refine HS.out.mono ?_
  rintro e w1 ⟨rfl, hr, hk⟩
  have HR := hide hr
  have HK := hide hk
  obtain ⟨c0, c1, c2, c3, f1, f2, f3⟩ := hr
  clear hk HS
  obtain ⟨kf, hkf⟩ : ∃ kf, kf = if Ex.sg s.data.toList j = 48 ∨ Ex.sg s.data.toList j = 49 ∨ Ex.ends (Ex.sg s.data.toList j) = true then j else Ex.wend s.data.toList j := ⟨_, rfl⟩
  have HKF := hide hkf
  have hkf1 : j ≤ kf := by
    rw [hkf]
    split
    · exact Nat.le_refl _
    · exact Ex.wend_ge _ _
  have hkf2 : kf ≤ s.size := by
    rw [hkf]
    split
    · exact hle
    · have := Ex.wend_le s.data.toList j (by rw [HL.out]; exact hle)
      rw [HL.out] at this
      exact this
  clear hkf
  go_upto_block 0 with fail
  go_cut [3] (fun t wx => t = .int .i64 (kf : Int) ∧ Rp b s j 0 (-1) wx ∧ Keep b w wx)
  case first =>
    go_wp2_with fail
    go_loopg [3] (s.size - j) (fun g t wr => ∃ k : Nat, j ≤ k ∧ k ≤ s.size ∧ g = s.size - k ∧ t = .int .i64 (k : Int) ∧ Rp b s j 0 (-1) wr ∧ Keep b w wr ∧ (k = j ∨ (j < k ∧ kf = Ex.wend s.data.toList k)))
    case atStart => exact ⟨j, Nat.le_refl _, hle, rfl, rfl, HR.out, HK.out, .inl rfl⟩
    case round =>
      clear c0 c1 c2 c3 f1 f2 f3 HR HK
      obtain ⟨k, hjk, hks, hg, rfl, hr, hk, hor⟩ := hrel
      have HG := hide hg
      have HR := hide hr
      have HK := hide hk
      have HOR := hide hor
      obtain ⟨c0, c1, c2, c3, f1, f2, f3⟩ := hr
      clear hg hk hor
      by_cases hlt : k < s.size
      · have hlt' : (k : Int) < (s.size : Int) := by omega
        have HCR := hide (containsRune_any s[k].toNat (UInt8.toNat_lt _) wr)
        have HSG := hide (sg_at s k hlt)
        have hw32 : wrap32 (s[k].toNat : Int) = (s[k].toNat : Int) := by unfold wrap32; have := UInt8.toNat_lt s[k]; omega
        have HGD := hide (getD_byte s k hlt)
        cases hb : Ex.ends s[k].toNat with
        | true =>
          have HKK : Hid (kf = k) := by
            show _ = _
            rcases HOR.out with e | ⟨_, e⟩
            · rw [HKF.out, ← e, HSG.out, hb]; simp
            · rw [e]; exact Ex.wend_stop s.data.toList k (by rw [HL.out]; exact hlt) (by rw [HGD.out]; exact hb)
          rw [hb] at HCR
          go_wp2_with fail
          refine HCR.out.mono ?_
          rintro e w2 ⟨rfl, n, rfl⟩
          go_wp2_with fail
          go_meet
          exact ⟨by rw [HKK.out], HR.out.drewN _, HK.out.drewN _⟩
        | false =>
          rw [hb] at HCR
          by_cases hkj : k = j
          · have hgt : ¬ (j : Int) < (k : Int) := by omega
            by_cases q0 : s[k].toNat = 48
            · have HKK : Hid (kf = k) := by show _ = _; rw [HKF.out, ← hkj, HSG.out, q0]; simp
              have e0 : ((s[k].toNat : Int) != 48) = false := by rw [q0]; rfl
              clear q0 hkj
              go_wp2_with fail
              refine HCR.out.mono ?_
              rintro e w2 ⟨rfl, n, rfl⟩
              go_wp2_with fail
              go_meet
              exact ⟨by rw [HKK.out], HR.out.drewN _, HK.out.drewN _⟩
            · have e0 : ((s[k].toNat : Int) != 48) = true := by simp; omega
              by_cases q1 : s[k].toNat = 49
              · have HKK : Hid (kf = k) := by show _ = _; rw [HKF.out, ← hkj, HSG.out, q1]; simp
                have e1 : ((s[k].toNat : Int) != 49) = false := by rw [q1]; rfl
                clear q0 q1 hkj
                go_wp2_with fail
                refine HCR.out.mono ?_
                rintro e w2 ⟨rfl, n, rfl⟩
                go_wp2_with fail
                go_meet
                exact ⟨by rw [HKK.out], HR.out.drewN _, HK.out.drewN _⟩
              · have e1 : ((s[k].toNat : Int) != 49) = true := by simp; omega
                have HKK : Hid (kf = Ex.wend s.data.toList (k + 1)) := by
                  show _ = _
                  rw [HKF.out, ← hkj, HSG.out, if_neg (by rw [hb]; simp [q0, q1])]
                  exact Ex.wend_on s.data.toList k (by rw [HL.out]; exact hlt) (by rw [HGD.out]; exact hb)
                clear q0 q1 hkj
                go_wp2_with fail
                refine HCR.out.mono ?_
                rintro e w2 ⟨rfl, n, rfl⟩
                go_wp2_with fail
                go_roundg (s.size - (k + 1))
                case measure => rw [HG.out]; omega
                case rel => exact ⟨k + 1, by omega, by omega, rfl, by go_num, HR.out.drewN _, HK.out.drewN _, .inr ⟨by omega, HKK.out⟩⟩
          · have hgt : (j : Int) < (k : Int) := by omega
            have HKK : Hid (kf = Ex.wend s.data.toList (k + 1)) := by
              show _ = _
              rcases HOR.out with e | ⟨_, e⟩
              · exact absurd e hkj
              · rw [e]; exact Ex.wend_on s.data.toList k (by rw [HL.out]; exact hlt) (by rw [HGD.out]; exact hb)
            clear hkj
            go_wp2_with fail
            refine HCR.out.mono ?_
            rintro e w2 ⟨rfl, n, rfl⟩
            go_wp2_with fail
            go_roundg (s.size - (k + 1))
            case measure => rw [HG.out]; omega
            case rel => exact ⟨k + 1, by omega, by omega, rfl, by go_num, HR.out.drewN _, HK.out.drewN _, .inr ⟨by omega, HKK.out⟩⟩
      · have hlt' : ¬ (k : Int) < (s.size : Int) := by omega
        have HKK : Hid (kf = k) := by
          show _ = _
          rcases HOR.out with e | ⟨_, e⟩
          · rw [HKF.out, ← e, sg_end s k hlt, if_pos (.inr (.inr Ex.ends32))]
          · rw [e]; exact Ex.wend_end s.data.toList k (by rw [HL.out]; omega)
        go_wp2_with fail
        go_meet
        exact ⟨by rw [HKK.out], HR.out, HK.out⟩
  case rest =>
    obtain ⟨rfl, hr2, hk2⟩ := hcut
    clear c0 c1 c2 c3 f1 f2 f3 HR HK
    have HR := hide hr2
    have HK := hide hk2
    obtain ⟨c0, c1, c2, c3, f1, f2, f3⟩ := hr2
    clear hk2
    go_wp2_with fail
    go_quiet (fail)
    generalize hsub : s.extract j kf = sub
    have HSUB : Hid (sub.data.toList = Ex.cut s.data.toList j kf) := by show _ = _; rw [← hsub]; exact cut_eq s j kf
    have hsz : sub.size ≤ 2000 := by rw [← hsub]; simp; omega
    clear hsub
    have HFAIL := hide (fun n => rfail_any b s j (-1) n (wc.drewN nq) (HR.out.drewN nq) hle hs)
    rw [HSK.out] at HFAIL
    have HEMP : Hid (sub.toList.isEmpty = (sub.data.toList).isEmpty) := by show _ = _; rw [ByteArray.toList_eq]
    by_cases hC : Ex.sg s.data.toList j = 48 ∨ Ex.sg s.data.toList j = 49 ∨ Ex.ends (Ex.sg s.data.toList j) = true
    · have hemp : sub.toList.isEmpty = true := by
        rw [HEMP.out, HSUB.out, HKF.out, if_pos hC]
        simp [Ex.cut]
      have HF : Hid (r = .inl (3, j)) := by show _ = _; rw [HP.out, wordAt, if_pos hC]
      clear hC
      go_wp2_with fail
      refine (HFAIL.out 3).mono ?_
      rintro e w3 ⟨rfl, hr3, hk3⟩
      have HR3 := hide hr3
      have HK3 := hide hk3
      clear hr3 hk3
      go_wp2_with fail
      go_ret
      rw [HF.out]
      exact ⟨(HK.out.drewN nq).trans HK3.out, _, rfl, hle, HR3.out⟩
    · have hkw : kf = Ex.wend s.data.toList j := by rw [HKF.out, if_neg hC]
      have hjl : j < s.size := by
        by_cases hx : j < s.size
        · exact hx
        · exact absurd (.inr (.inr (by rw [sg_end s j hx]; exact Ex.ends32))) hC
      have hne : Ex.ends (Ex.sg s.data.toList j) = false := by
        cases hb : Ex.ends (Ex.sg s.data.toList j) with
        | true => exact absurd (.inr (.inr hb)) hC
        | false => rfl
      have hgt : j < kf := by
        rw [hkw, Ex.wend_on s.data.toList j (by rw [HL.out]; exact hjl) (by rw [getD_byte s j hjl, ← sg_at s j hjl]; exact hne)]
        have := Ex.wend_ge s.data.toList (j + 1)
        omega
      have hemp : sub.toList.isEmpty = false := by
        rw [HEMP.out, HSUB.out]
        cases hc : Ex.cut s.data.toList j kf with
        | nil =>
          exfalso
          have h0 : (Ex.cut s.data.toList j kf).length = 0 := by rw [hc]; rfl
          unfold Ex.cut at h0
          rw [List.length_drop, List.length_take, HL.out] at h0
          omega
        | cons _ _ => rfl
      have HF : Hid (r = if Nm.name sub.data.toList = true then .inr (sub.data.toList, kf) else .inl (5, j)) := by
        show _ = _
        rw [HP.out, wordAt, if_neg hC, HSUB.out, hkw]
      have HNC := hide (NameCheck_any sub (wc.drewN nq) (by unfold maxLen; omega))
      clear hC hkw hne
      generalize Nm.name sub.data.toList = bn at *
      cases bn with
      | false =>
        have HF2 : Hid (r = .inl (5, j)) := by show _ = _; rw [HF.out]; rfl
        clear HF
        go_wp2_with fail
        refine HNC.out.mono ?_
        rintro e w3 ⟨rfl, rfl⟩
        go_wp2_with fail
        refine (HFAIL.out 5).mono ?_
        rintro e w3 ⟨rfl, hr3, hk3⟩
        have HR3 := hide hr3
        have HK3 := hide hk3
        clear hr3 hk3
        go_wp2_with fail
        go_ret
        rw [HF2.out]
        exact ⟨(HK.out.drewN nq).trans HK3.out, _, rfl, hle, HR3.out⟩
      | true =>
        have HF2 : Hid (r = .inr (sub.data.toList, kf)) := by show _ = _; rw [HF.out]; rfl
        clear HF
        go_wp2_with fail
        refine HNC.out.mono ?_
        rintro e w3 ⟨rfl, rfl⟩
        go_wp2_with fail
        go_ret
        rw [HF2.out]
        exact ⟨(HK.out.setCell rfl _).drewN nq, rfl, (HR.out.set1 kf).drewN nq⟩
end
end Go.Proofs.YtkpfahbodlfpiaaGreatDoor
