/-
  The walk of the document's own answer on names (NameCheck). The walk of the document's word: a name, or a fault. Expressions as the document's package lays them: a block a part. What its reading comes to in memory. Programs as the document's package lays them: the names as package ladder does, three cells a rung, the last a pointer to an expression. The walks of package ladder's numbers and Kind: the places of names of a kind.
-/
import Derived.Test.YtgldbliohpfljaaGreatDoorLdRepAll
import Derived.Test.YtgldbliohpfljaaGreatDoorRpRuneAll
import Derived.Test.YtgldbliohpfljaaGreatDoorErAsAll
import Derived.Deep.DeepCutAuto
import Derived.Deep.CutBlock
import Derived.Test.YtgldbliohpfljaaGreatDoorRtParseAll
import Derived.Test.YtgldbliohpfljaaGreatDoorRdListAll
import Derived.Maps.AppendAt
import Derived.Deep.AppendLies
namespace Go.Proofs.YtgldbliohpfljaaGreatDoor
section
open Go.RowKit
theorem dec_nat (n : Nat) : decide (n ≤ 8) = decide ((n : Int) ≤ 8) := by by_cases h : n ≤ 8 <;> simp [h] <;> omega
namespace Nm
/-- the first k signs of a text may be a name's -/
def good (l : List UInt8) (k : Nat) : Bool := upto l k && (k == 0 || lo (sign l 0))
theorem good_zero (l : List UInt8) : good l 0 = true := by simp [good, upto_zero]
theorem good_next (l : List UInt8) (k : Nat) (h : k < l.length) (hg : good l k = true) (c : Int) (hc : sign l k = c) (h0 : k = 0 → lo c = true) (hn : nm c = true) : good l (k + 1) = true := by
  unfold good at *
  rw [upto_succ l k h, hc, hn]
  by_cases e : k = 0
  · subst e; simp [hc, h0 rfl, upto_zero]
  · simp_all
theorem name_of_good (l : List UInt8) (hg : good l l.length = true) : name l = (!(l.isEmpty) && !(kept l) && decide (l.length ≤ 8)) := by
  unfold good at hg
  rw [Bool.and_eq_true] at hg
  cases l with
  | nil => simp [name]
  | cons a r =>
    have h2 : lo (sign (a :: r) 0) = true := by simpa using hg.2
    unfold name
    rw [hg.1, h2]
    cases decide ((a :: r).length ≤ 8) <;> cases kept (a :: r) <;> simp
end Nm
set_option maxHeartbeats 1000000 in
theorem NameCheck_any (s : ByteArray) (w : World) (hs : s.size ≤ maxLen) :
    Calls Tryz.prog 148 #[.string s] w fun e w' => e = .returned (.bool (Nm.name s.data.toList)) ∧ w' = w := by
  unfold maxLen at hs
  have HL : Hid (s.data.toList.length = s.size) := by show _ = _; simp
  go_enter Tryz.func148, Tryz.ntmps148
  go_wp2
  go_loop [8] (fun i => ∃ k : Nat, k ≤ s.size ∧ i = .int .i64 k ∧ Nm.good s.data.toList k = true) (fun i => s.size - (intOf i).toNat)
  case atStart => exact ⟨0, Nat.zero_le _, rfl, Nm.good_zero _⟩
  case round =>
    obtain ⟨k, hk, rfl, hu⟩ := hrel
    have HU : Hid (Nm.good s.data.toList k = true) := hu
    clear hu
    by_cases hlt : k < s.size
    · have HS : Hid (Nm.sign s.data.toList k = (s[k].toNat : Int)) := sign_byte s k hlt
      have HN : Hid ((k = 0 → Nm.lo (s[k].toNat : Int) = true) → Nm.nm (s[k].toNat : Int) = true → Nm.good s.data.toList (k + 1) = true) := fun a b => Nm.good_next _ k (by rw [HL.out]; exact hlt) HU.out _ HS.out a b
      have HF : Hid (Nm.nm (s[k].toNat : Int) = false → Nm.name s.data.toList = false) := fun a => Nm.no_sign _ k (by rw [HL.out]; exact hlt) (by rw [HS.out]; exact a)
      have HG : Hid (k = 0 → Nm.lo (s[k].toNat : Int) = false → Nm.name s.data.toList = false) := fun a b => Nm.no_first _ (by subst a; rw [HS.out]; exact b)
      by_cases hlo : 97 ≤ (s[k].toNat : Int) ∧ (s[k].toNat : Int) ≤ 122
      · obtain ⟨q1, q2⟩ := hlo
        have e1 : Nm.lo (s[k].toNat : Int) = true := by simp [Nm.lo]; omega
        have HR := HN.out (fun _ => e1) (Nm.lo_nm _ e1)
        clear e1
        have HX := hide HR
        clear HR
        go_wp2
        go_round
        case rel => exact ⟨k + 1, by omega, by go_num, unhide HX⟩
        case measure => simp [intOf]; omega
      · have e1 : Nm.lo (s[k].toNat : Int) = false := by simp [Nm.lo]; omega
        by_cases hk0 : k = 0
        · have HX := hide (HG.out hk0 e1)
          have z : ((k : Int) == 0) = true := beq_iff_eq.2 (by omega)
          clear e1 hk0
          by_cases q1 : 97 ≤ (s[k].toNat : Int)
          · have q2 : ¬ (s[k].toNat : Int) ≤ 122 := fun h => hlo ⟨q1, h⟩
            clear hlo
            go_wp2
            go_ret
            exact ⟨ret_bool (unhide HX).symm, rfl⟩
          · clear hlo
            go_wp2
            go_ret
            exact ⟨ret_bool (unhide HX).symm, rfl⟩
        · have z : ((k : Int) == 0) = false := beq_eq_false_iff_ne.2 (by omega)
          by_cases hd : 48 ≤ (s[k].toNat : Int) ∧ (s[k].toNat : Int) ≤ 57
          · obtain ⟨q1, q2⟩ := hd
            have q3 : ¬ 97 ≤ (s[k].toNat : Int) := by omega
            have e2 : Nm.nm (s[k].toNat : Int) = true := by simp [Nm.nm, Nm.di]; omega
            have HX := hide (HN.out (fun h => absurd h hk0) e2)
            clear e1 e2 hk0 hlo
            go_wp2
            go_round
            case rel => exact ⟨k + 1, by omega, by go_num, unhide HX⟩
            case measure => simp [intOf]; omega
          · by_cases h9 : (s[k].toNat : Int) = 95
            · have e2 : Nm.nm (s[k].toNat : Int) = true := by simp [Nm.nm]; omega
              have HX := hide (HN.out (fun h => absurd h hk0) e2)
              have q1 : ¬ 97 ≤ (s[k].toNat : Int) := by omega
              have q2 : 48 ≤ (s[k].toNat : Int) := by omega
              have q3 : ¬ (s[k].toNat : Int) ≤ 57 := by omega
              have q4 : ((s[k].toNat : Int) == 95) = true := beq_iff_eq.2 h9
              clear e1 e2 hk0 hlo hd h9
              go_wp2
              go_round
              case rel => exact ⟨k + 1, by omega, by go_num, unhide HX⟩
              case measure => simp [intOf]; omega
            · have e2 : Nm.nm (s[k].toNat : Int) = false := by simp [Nm.nm, e1, Nm.di]; omega
              have HX := hide (HF.out e2)
              have q4 : ((s[k].toNat : Int) == 95) = false := beq_eq_false_iff_ne.2 h9
              clear e1 e2 hk0 h9
              by_cases q1 : 97 ≤ (s[k].toNat : Int)
              · have q2 : ¬ (s[k].toNat : Int) ≤ 122 := fun h => hlo ⟨q1, h⟩
                have q3 : 48 ≤ (s[k].toNat : Int) := by omega
                have q5 : ¬ (s[k].toNat : Int) ≤ 57 := by omega
                clear hlo hd
                go_wp2
                go_ret
                exact ⟨ret_bool (unhide HX).symm, rfl⟩
              · by_cases q3 : 48 ≤ (s[k].toNat : Int)
                · have q5 : ¬ (s[k].toNat : Int) ≤ 57 := fun h => hd ⟨q3, h⟩
                  clear hlo hd
                  go_wp2
                  go_ret
                  exact ⟨ret_bool (unhide HX).symm, rfl⟩
                · clear hlo hd
                  go_wp2
                  go_ret
                  exact ⟨ret_bool (unhide HX).symm, rfl⟩
    · have hk' : k = s.size := by omega
      have HX : Hid (Nm.name s.data.toList = (!(s.toList.isEmpty) && !(Nm.kept s.toList) && decide ((s.size : Int) ≤ 8))) := by
        show _ = _
        rw [Nm.name_of_good _ (by rw [HL.out, ← hk']; exact HU.out), ByteArray.toList_eq, HL.out]
        rw [dec_nat]
      clear HU HL hk'
      go_wp2
      all_goals
        go_ret
        exact ⟨ret_bool (by rw [unhide HX]; simp_all [Nm.kept]), rfl⟩
end
section
open Go.RowKit
/-- a word, at the place of its first sign -/
def wordAt (l : List UInt8) (j c : Nat) : (Nat × Nat) ⊕ (List UInt8 × Nat) :=
  if c = 48 ∨ c = 49 ∨ Ex.ends c = true then .inl (3, j)
  else if Nm.name (Ex.cut l j (Ex.wend l j)) = true then .inr (Ex.cut l j (Ex.wend l j), Ex.wend l j)
  else .inl (5, j)
def wordP (l : List UInt8) (i : Nat) : (Nat × Nat) ⊕ (List UInt8 × Nat) := wordAt l (Ex.skip l i) (Ex.sg l (Ex.skip l i))
def asName (kind : Nat) : (Nat × Nat) ⊕ (List UInt8 × Nat) → Ex.Res Ex
  | .inl e => .inl e
  | .inr (n, m) => .inr (⟨kind, n, []⟩, m)
theorem nameP_word (l : List UInt8) (kind i : Nat) : Ex.nameP l kind i = asName kind (wordP l i) := by
  unfold Ex.nameP wordP wordAt
  simp only
  split
  · rfl
  · split <;> rfl
/-- what word comes to in memory -/
def Word (b : Nat) (s : ByteArray) (w : World) (r : (Nat × Nat) ⊕ (List UInt8 × Nat)) (e : Ending) (w' : World) : Prop :=
  Keep b w w' ∧
  match r with
  | .inl (err, p) => ∃ t, e = .returned (.string t) ∧ p ≤ s.size ∧ Rp b s p (err : Int) (p : Int) w'
  | .inr (n, m) => e = .returned (.string ⟨n.toArray⟩) ∧ Rp b s m 0 (-1) w'
set_option maxHeartbeats 2000000 in
set_option maxRecDepth 100000 in
theorem word_any (b : Nat) (s : ByteArray) (i : Nat) (w : World) (h : Rp b s i 0 (-1) w) (hi : i ≤ s.size) (hs : s.size ≤ 2000) :
    Calls Tryz.prog 166 #[.pointer (some ⟨b, 0, none⟩)] w (Word b s w (wordP s.data.toList i)) := by
  have HL : Hid (s.data.toList.length = s.size) := by show _ = _; simp
  have HS := hide (rskip_any b s i 0 (-1) w h hi hs)
  have hle := Ex.skip_le s.data.toList i (by rw [HL.out]; exact hi)
  rw [HL.out] at hle
  have HSK : Hid (Ex.skip s.data.toList (Ex.skip s.data.toList i) = Ex.skip s.data.toList i) := skip_skip _ _ (by rw [HL.out]; exact hi)
  have HP : Hid (wordP s.data.toList i = wordAt s.data.toList (Ex.skip s.data.toList i) (Ex.sg s.data.toList (Ex.skip s.data.toList i))) := rfl
  clear h
  generalize wordP s.data.toList i = r at *
  generalize Ex.skip s.data.toList i = j at *
  go_enter Tryz.func166, Tryz.ntmps166
  go_wp2_with fail
  refine HS.out.mono ?_
  rintro e w1 ⟨rfl, hr, hk⟩
  have HR := hide hr
  have HK := hide hk
  obtain ⟨c0, c1, c2, c3, f1, f2, f3⟩ := hr
  clear hk HS
  obtain ⟨kf, hkf⟩ : ∃ kf, kf = if Ex.sg s.data.toList j = 48 ∨ Ex.sg s.data.toList j = 49 ∨ Ex.ends (Ex.sg s.data.toList j) = true then j else Ex.wend s.data.toList j := ⟨_, rfl⟩
  have HKF := hide hkf
  have hkf1 : j ≤ kf := by
    rw [hkf]
    split
    · exact Nat.le_refl _
    · exact Ex.wend_ge _ _
  have hkf2 : kf ≤ s.size := by
    rw [hkf]
    split
    · exact hle
    · have := Ex.wend_le s.data.toList j (by rw [HL.out]; exact hle)
      rw [HL.out] at this
      exact this
  clear hkf
  go_upto_block 0 with fail
  go_cut [3] (fun t wx => t = .int .i64 (kf : Int) ∧ Rp b s j 0 (-1) wx ∧ Keep b w wx)
  case first =>
    go_wp2_with fail
    go_loopg [3] (s.size - j) (fun g t wr => ∃ k : Nat, j ≤ k ∧ k ≤ s.size ∧ g = s.size - k ∧ t = .int .i64 (k : Int) ∧ Rp b s j 0 (-1) wr ∧ Keep b w wr ∧ (k = j ∨ (j < k ∧ kf = Ex.wend s.data.toList k)))
    case atStart => exact ⟨j, Nat.le_refl _, hle, rfl, rfl, HR.out, HK.out, .inl rfl⟩
    case round =>
      clear c0 c1 c2 c3 f1 f2 f3 HR HK
      obtain ⟨k, hjk, hks, hg, rfl, hr, hk, hor⟩ := hrel
      have HG := hide hg
      have HR := hide hr
      have HK := hide hk
      have HOR := hide hor
      obtain ⟨c0, c1, c2, c3, f1, f2, f3⟩ := hr
      clear hg hk hor
      by_cases hlt : k < s.size
      · have hlt' : (k : Int) < (s.size : Int) := by omega
        have HCR := hide (containsRune_any s[k].toNat (UInt8.toNat_lt _) wr)
        have HSG := hide (sg_at s k hlt)
        have hw32 : wrap32 (s[k].toNat : Int) = (s[k].toNat : Int) := by unfold wrap32; have := UInt8.toNat_lt s[k]; omega
        have HGD := hide (getD_byte s k hlt)
        cases hb : Ex.ends s[k].toNat with
        | true =>
          have HKK : Hid (kf = k) := by
            show _ = _
            rcases HOR.out with e | ⟨_, e⟩
            · rw [HKF.out, ← e, HSG.out, hb]; simp
            · rw [e]; exact Ex.wend_stop s.data.toList k (by rw [HL.out]; exact hlt) (by rw [HGD.out]; exact hb)
          rw [hb] at HCR
          go_wp2_with fail
          refine HCR.out.mono ?_
          rintro e w2 ⟨rfl, n, rfl⟩
          go_wp2_with fail
          go_meet
          exact ⟨by rw [HKK.out], HR.out.drewN _, HK.out.drewN _⟩
        | false =>
          rw [hb] at HCR
          by_cases hkj : k = j
          · have hgt : ¬ (j : Int) < (k : Int) := by omega
            by_cases q0 : s[k].toNat = 48
            · have HKK : Hid (kf = k) := by show _ = _; rw [HKF.out, ← hkj, HSG.out, q0]; simp
              have e0 : ((s[k].toNat : Int) != 48) = false := by rw [q0]; rfl
              clear q0 hkj
              go_wp2_with fail
              refine HCR.out.mono ?_
              rintro e w2 ⟨rfl, n, rfl⟩
              go_wp2_with fail
              go_meet
              exact ⟨by rw [HKK.out], HR.out.drewN _, HK.out.drewN _⟩
            · have e0 : ((s[k].toNat : Int) != 48) = true := by simp; omega
              by_cases q1 : s[k].toNat = 49
              · have HKK : Hid (kf = k) := by show _ = _; rw [HKF.out, ← hkj, HSG.out, q1]; simp
                have e1 : ((s[k].toNat : Int) != 49) = false := by rw [q1]; rfl
                clear q0 q1 hkj
                go_wp2_with fail
                refine HCR.out.mono ?_
                rintro e w2 ⟨rfl, n, rfl⟩
                go_wp2_with fail
                go_meet
                exact ⟨by rw [HKK.out], HR.out.drewN _, HK.out.drewN _⟩
              · have e1 : ((s[k].toNat : Int) != 49) = true := by simp; omega
                have HKK : Hid (kf = Ex.wend s.data.toList (k + 1)) := by
                  show _ = _
                  rw [HKF.out, ← hkj, HSG.out, if_neg (by rw [hb]; simp [q0, q1])]
                  exact Ex.wend_on s.data.toList k (by rw [HL.out]; exact hlt) (by rw [HGD.out]; exact hb)
                clear q0 q1 hkj
                go_wp2_with fail
                refine HCR.out.mono ?_
                rintro e w2 ⟨rfl, n, rfl⟩
                go_wp2_with fail
                go_roundg (s.size - (k + 1))
                case measure => rw [HG.out]; omega
                case rel => exact ⟨k + 1, by omega, by omega, rfl, by go_num, HR.out.drewN _, HK.out.drewN _, .inr ⟨by omega, HKK.out⟩⟩
          · have hgt : (j : Int) < (k : Int) := by omega
            have HKK : Hid (kf = Ex.wend s.data.toList (k + 1)) := by
              show _ = _
              rcases HOR.out with e | ⟨_, e⟩
              · exact absurd e hkj
              · rw [e]; exact Ex.wend_on s.data.toList k (by rw [HL.out]; exact hlt) (by rw [HGD.out]; exact hb)
            clear hkj
            go_wp2_with fail
            refine HCR.out.mono ?_
            rintro e w2 ⟨rfl, n, rfl⟩
            go_wp2_with fail
            go_roundg (s.size - (k + 1))
            case measure => rw [HG.out]; omega
            case rel => exact ⟨k + 1, by omega, by omega, rfl, by go_num, HR.out.drewN _, HK.out.drewN _, .inr ⟨by omega, HKK.out⟩⟩
      · have hlt' : ¬ (k : Int) < (s.size : Int) := by omega
        have HKK : Hid (kf = k) := by
          show _ = _
          rcases HOR.out with e | ⟨_, e⟩
          · rw [HKF.out, ← e, sg_end s k hlt, if_pos (.inr (.inr Ex.ends32))]
          · rw [e]; exact Ex.wend_end s.data.toList k (by rw [HL.out]; omega)
        go_wp2_with fail
        go_meet
        exact ⟨by rw [HKK.out], HR.out, HK.out⟩
  case rest =>
    obtain ⟨rfl, hr2, hk2⟩ := hcut
    clear c0 c1 c2 c3 f1 f2 f3 HR HK
    have HR := hide hr2
    have HK := hide hk2
    obtain ⟨c0, c1, c2, c3, f1, f2, f3⟩ := hr2
    clear hk2
    go_wp2_with fail
    go_quiet (fail)
    generalize hsub : s.extract j kf = sub
    have HSUB : Hid (sub.data.toList = Ex.cut s.data.toList j kf) := by show _ = _; rw [← hsub]; exact cut_eq s j kf
    have hsz : sub.size ≤ 2000 := by rw [← hsub]; simp; omega
    clear hsub
    have HFAIL := hide (fun n => rfail_any b s j (-1) n (wc.drewN nq) (HR.out.drewN nq) hle hs)
    rw [HSK.out] at HFAIL
    have HEMP : Hid (sub.toList.isEmpty = (sub.data.toList).isEmpty) := by show _ = _; rw [ByteArray.toList_eq]
    by_cases hC : Ex.sg s.data.toList j = 48 ∨ Ex.sg s.data.toList j = 49 ∨ Ex.ends (Ex.sg s.data.toList j) = true
    · have hemp : sub.toList.isEmpty = true := by
        rw [HEMP.out, HSUB.out, HKF.out, if_pos hC]
        simp [Ex.cut]
      have HF : Hid (r = .inl (3, j)) := by show _ = _; rw [HP.out, wordAt, if_pos hC]
      clear hC
      go_wp2_with fail
      refine (HFAIL.out 3).mono ?_
      rintro e w3 ⟨rfl, hr3, hk3⟩
      have HR3 := hide hr3
      have HK3 := hide hk3
      clear hr3 hk3
      go_wp2_with fail
      go_ret
      rw [HF.out]
      exact ⟨(HK.out.drewN nq).trans HK3.out, _, rfl, hle, HR3.out⟩
    · have hkw : kf = Ex.wend s.data.toList j := by rw [HKF.out, if_neg hC]
      have hjl : j < s.size := by
        by_cases hx : j < s.size
        · exact hx
        · exact absurd (.inr (.inr (by rw [sg_end s j hx]; exact Ex.ends32))) hC
      have hne : Ex.ends (Ex.sg s.data.toList j) = false := by
        cases hb : Ex.ends (Ex.sg s.data.toList j) with
        | true => exact absurd (.inr (.inr hb)) hC
        | false => rfl
      have hgt : j < kf := by
        rw [hkw, Ex.wend_on s.data.toList j (by rw [HL.out]; exact hjl) (by rw [getD_byte s j hjl, ← sg_at s j hjl]; exact hne)]
        have := Ex.wend_ge s.data.toList (j + 1)
        omega
      have hemp : sub.toList.isEmpty = false := by
        rw [HEMP.out, HSUB.out]
        cases hc : Ex.cut s.data.toList j kf with
        | nil =>
          exfalso
          have h0 : (Ex.cut s.data.toList j kf).length = 0 := by rw [hc]; rfl
          unfold Ex.cut at h0
          rw [List.length_drop, List.length_take, HL.out] at h0
          omega
        | cons _ _ => rfl
      have HF : Hid (r = if Nm.name sub.data.toList = true then .inr (sub.data.toList, kf) else .inl (5, j)) := by
        show _ = _
        rw [HP.out, wordAt, if_neg hC, HSUB.out, hkw]
      have HNC := hide (NameCheck_any sub (wc.drewN nq) (by unfold maxLen; omega))
      clear hC hkw hne
      generalize Nm.name sub.data.toList = bn at *
      cases bn with
      | false =>
        have HF2 : Hid (r = .inl (5, j)) := by show _ = _; rw [HF.out]; rfl
        clear HF
        go_wp2_with fail
        refine HNC.out.mono ?_
        rintro e w3 ⟨rfl, rfl⟩
        go_wp2_with fail
        refine (HFAIL.out 5).mono ?_
        rintro e w3 ⟨rfl, hr3, hk3⟩
        have HR3 := hide hr3
        have HK3 := hide hk3
        clear hr3 hk3
        go_wp2_with fail
        go_ret
        rw [HF2.out]
        exact ⟨(HK.out.drewN nq).trans HK3.out, _, rfl, hle, HR3.out⟩
      | true =>
        have HF2 : Hid (r = .inr (sub.data.toList, kf)) := by show _ = _; rw [HF.out]; rfl
        clear HF
        go_wp2_with fail
        refine HNC.out.mono ?_
        rintro e w3 ⟨rfl, rfl⟩
        go_wp2_with fail
        go_ret
        rw [HF2.out]
        exact ⟨(HK.out.setCell rfl _).drewN nq, rfl, (HR.out.set1 kf).drewN nq⟩
end
section
open Go.RowKit
/-- the document's word for a kind -/
def kindS : Nat → List UInt8
  | 0 => [48]
  | 1 => [49]
  | 2 => [98, 105, 116]
  | 3 => [94]
  | 4 => [126]
  | 5 => [33]
  | 6 => [38]
  | _ => [124]
/-- in block h lie, from its head on, pointers to blocks of which these hold -/
def RowP (w : World) (h : Nat) (Ps : List (Nat → Prop)) : Prop := ∀ (i : Nat) (P : Nat → Prop), Ps[i]? = some P → ∃ g, w.cell? ⟨h, i, none⟩ = some (.pointer (some ⟨g, 0, none⟩)) ∧ P g
def OfRow (ok : Nat → Prop) (w : World) (sv : Value) (n : Nat) (Ps : List (Nat → Prop)) : Prop :=
  (n = 0 ∧ sv = .slice none 0 0) ∨ (0 < n ∧ ∃ h cap, sv = .slice (some ⟨h, 0, none⟩) n cap ∧ n ≤ cap ∧ ok h ∧ RowP w h Ps)
/-- an expression's form -/
def RWf (k : Nat) (nm : List UInt8) (n : Nat) : Prop :=
  (k ≤ 1 ∧ nm = [] ∧ n = 0) ∨ (2 ≤ k ∧ k ≤ 4 ∧ nm ≠ [] ∧ n = 0) ∨ (k = 5 ∧ nm = [] ∧ n = 1) ∨ (6 ≤ k ∧ k ≤ 7 ∧ nm = [] ∧ 2 ≤ n)
def IsRx (ok : Nat → Prop) (w : World) : Ex → Nat → Prop
  | ⟨k, nm, l⟩ => fun g => ok g ∧ RWf k nm l.length ∧ l.length ≤ 1000000 ∧ w.cell? ⟨g, 0, none⟩ = some (.string ⟨(kindS k).toArray⟩) ∧ w.cell? ⟨g, 1, none⟩ = some (.string ⟨nm.toArray⟩) ∧
    ∃ sv, w.cell? ⟨g, 2, none⟩ = some sv ∧ OfRow ok w sv l.length (l.map fun y => IsRx ok w y)
theorem IsRx.def (ok : Nat → Prop) (w : World) (k : Nat) (nm : List UInt8) (l : List Ex) (g : Nat) : IsRx ok w ⟨k, nm, l⟩ g ↔ ok g ∧ RWf k nm l.length ∧ l.length ≤ 1000000 ∧ w.cell? ⟨g, 0, none⟩ = some (.string ⟨(kindS k).toArray⟩) ∧ w.cell? ⟨g, 1, none⟩ = some (.string ⟨nm.toArray⟩) ∧
    ∃ sv, w.cell? ⟨g, 2, none⟩ = some sv ∧ OfRow ok w sv l.length (l.map fun y => IsRx ok w y) := by simp only [IsRx]
theorem IsRx.stay {ok ok' : Nat → Prop} {w w' : World} (hs : Stay ok w w') (hok : ∀ g, ok g → ok' g) : ∀ (x : Ex) (g : Nat), IsRx ok w x g → IsRx ok' w' x g := by
  intro x
  induction x using Ex.ind with
  | h k nm l ih =>
    intro g h
    rw [IsRx.def] at h ⊢
    obtain ⟨h1, h2, h3, h4, h5, sv, h6, h7⟩ := h
    refine ⟨hok g h1, h2, h3, hs g 0 _ h1 h4, hs g 1 _ h1 h5, sv, hs g 2 _ h1 h6, ?_⟩
    rcases h7 with h7 | ⟨h0, b, cap, e1, e2, e3, e4⟩
    · exact .inl h7
    · refine .inr ⟨h0, b, cap, e1, e2, hok b e3, ?_⟩
      intro i P hP
      rw [List.getElem?_map] at hP
      cases hl : l[i]? with
      | none => rw [hl] at hP; simp at hP
      | some y =>
        rw [hl] at hP
        simp only [Option.map_some, Option.some.injEq] at hP
        obtain ⟨q, hq, hx⟩ := e4 i (IsRx ok w y) (by rw [List.getElem?_map, hl]; rfl)
        exact ⟨q, hs b i _ e3 hq, by rw [← hP]; exact ih y (List.mem_of_getElem? hl) q hx⟩
theorem IsRx.lt {ok : Nat → Prop} {w : World} : ∀ (x : Ex) (g : Nat), IsRx ok w x g → IsRx (fun g => ok g ∧ g < w.heap.size) w x g := by
  intro x
  induction x using Ex.ind with
  | h k nm l ih =>
    intro g h
    rw [IsRx.def] at h ⊢
    obtain ⟨h1, h2, h3, h4, h5, sv, h6, h7⟩ := h
    refine ⟨⟨h1, World.block_lt_of_cell? _ _ h4⟩, h2, h3, h4, h5, sv, h6, ?_⟩
    rcases h7 with h7 | ⟨h0, b, cap, e1, e2, e3, e4⟩
    · exact .inl h7
    · refine .inr ⟨h0, b, cap, e1, e2, ⟨e3, ?_⟩, ?_⟩
      · obtain ⟨q, hq, _⟩ := e4 0 (IsRx ok w l[0]) (by rw [List.getElem?_map, List.getElem?_eq_getElem (by omega)]; rfl)
        exact World.block_lt_of_cell? _ _ hq
      · intro i P hP
        rw [List.getElem?_map] at hP
        cases hl : l[i]? with
        | none => rw [hl] at hP; simp at hP
        | some y =>
          rw [hl] at hP
          simp only [Option.map_some, Option.some.injEq] at hP
          obtain ⟨q, hq, hx⟩ := e4 i (IsRx ok w y) (by rw [List.getElem?_map, hl]; rfl)
          exact ⟨q, hq, by rw [← hP]; exact ih y (List.mem_of_getElem? hl) q hx⟩
/-- What reading comes to in memory: a fault, or what is read; the reader's place; all else is as it was. -/
def ReadR (b : Nat) (s : ByteArray) (D : Nat) (w : World) (r : Ex.Res Ex) (e : Ending) (w' : World) : Prop :=
  Keep b w w' ∧
  match r with
  | .inl (err, p) => ∃ q i, e = .returned (.pointer q) ∧ i ≤ s.size + D ∧ err ≠ 0 ∧ Rp b s i (err : Int) (p : Int) w'
  | .inr (x, m) => ∃ g, e = .returned (.pointer (some ⟨g, 0, none⟩)) ∧ IsRx (fun g => w.heap.size ≤ g) w' x g ∧ Rp b s m 0 (-1) w'
/-- a row of the call's own of pointers -/
structure LR (b : Nat) (w : World) (v : Value) (us : List Value) (wr : World) : Prop where
  keep : Keep b w wr
  hb : b < w.heap.size
  own : wr.ownsRow w.heap.size 28 1 v us.length us
  ptr : ∀ u, u ∈ us → ∃ q, u = .pointer q
  ne : us ≠ []
/-- what they point to -/
structure Good (w : World) (v : Value) (xs : List Ex) (us : List Value) (wr : World) : Prop where
  len : us.length = xs.length
  each : ∀ (j : Nat) (x : Ex) (u : Value), xs[j]? = some x → us[j]? = some u → ∃ g, u = .pointer (some ⟨g, 0, none⟩) ∧ IsRx (fun g => w.heap.size ≤ g ∧ some g ≠ v.ownBlock) wr x g
namespace LR
variable {b : Nat} {w : World} {v : Value} {us : List Value} {wr : World}
theorem far (h : LR b w v us wr) : v.ownBlock = none ∨ v.ownBlock ≠ some b := by
  cases hv : v.ownBlock with
  | none => exact .inl rfl
  | some k => right; intro e; have := h.own.lt k hv; have h1 := h.hb; simp only [Option.some.injEq] at e; omega
theorem nb (h : LR b w v us wr) : some b ≠ v.ownBlock := fun e => by rcases h.far with h1 | h1 <;> simp [← e] at h1
theorem read {w1 : World} (h : LR b w v us wr) (hk : Keep b wr w1) : LR b w v us w1 := ⟨h.keep.trans hk, h.hb, h.own.kept hk.toGrown h.far, h.ptr, h.ne⟩
theorem push {u v' : Value} {w2 : World} {o : Obj} (h : LR b w v us wr) (hg : (wr.alloc o).grownBy w2 v.ownBlock) (hown : w2.ownsRow w.heap.size 28 1 v' (us.length + 1) (us ++ [u])) (hu : ∃ q, u = .pointer q) : LR b w v' (us ++ [u]) w2 := by
  refine ⟨(h.keep.alloc o).grown hg (fun k hk => (h.own.lt k hk).1), h.hb, ?_, ?_, by simp⟩
  · have e : (us ++ [u]).length = us.length + 1 := by simp
    rw [e]; exact hown
  · intro y hy
    rcases List.mem_append.1 hy with hy | hy
    · exact h.ptr y hy
    · simp only [List.mem_singleton] at hy; rw [hy]; exact hu
end LR
theorem Good.read {b : Nat} {w : World} {v : Value} {xs : List Ex} {us : List Value} {wr w1 : World} (h : Good w v xs us wr) (hb : b < w.heap.size) (hk : Keep b wr w1) : Good w v xs us w1 :=
  ⟨h.len, fun j x u hx hu => by
    obtain ⟨g, e, hg⟩ := h.each j x u hx hu
    exact ⟨g, e, IsRx.stay (Stay.keep hk fun g hg e => by omega) (fun g hg => hg) x g hg⟩⟩
theorem Good.push {w : World} {v v' : Value} {xs : List Ex} {us : List Value} {wr w2 : World} {x : Ex} {g B : Nat} {o : Obj} (h : Good w v xs us wr) (hB : w.heap.size ≤ B) (hv : ∀ k, v.ownBlock = some k → k < B) (hx : IsRx (fun g => B ≤ g) wr x g)
    (hg : (wr.alloc o).grownBy w2 v.ownBlock) (hat : v'.ownBlock = v.ownBlock ∨ v'.ownBlock = some (wr.heap.size + 1)) : Good w v' (xs ++ [x]) (us ++ [.pointer (some ⟨g, 0, none⟩)]) w2 := by
  have hal : Below wr.heap.size wr (wr.alloc o) := (Below.refl _ _).alloc (Nat.le_refl _) o
  have st : ∀ (ok : Nat → Prop), (∀ g, ok g → some g ≠ v.ownBlock) → Stay ok wr w2 := fun ok hok => (Stay.below hal).trans (Stay.grown hg hok)
  refine ⟨by simp [h.len], ?_⟩
  intro j y z hy hz
  have fin : ∀ (ok : Nat → Prop) (q : Nat), (∀ g, ok g → w.heap.size ≤ g ∧ some g ≠ v.ownBlock ∧ g < wr.heap.size) → IsRx ok wr y q → IsRx (fun g => w.heap.size ≤ g ∧ some g ≠ v'.ownBlock) w2 y q := by
    intro ok q hok hyz
    refine IsRx.stay (st ok fun g hg => (hok g hg).2.1) (fun g hg => ⟨(hok g hg).1, ?_⟩) y q hyz
    have h3 := hok g hg
    rcases hat with e | e
    · rw [e]; exact h3.2.1
    · rw [e]; intro e2; simp only [Option.some.injEq] at e2; omega
  by_cases hj : j < xs.length
  · rw [List.getElem?_append_left hj] at hy
    rw [List.getElem?_append_left (by rw [h.len]; exact hj)] at hz
    obtain ⟨q, e, hq⟩ := h.each j y z hy hz
    exact ⟨q, e, fin _ q (fun g hg => ⟨hg.1.1, hg.1.2, hg.2⟩) (IsRx.lt y q hq)⟩
  · have hj2 : j = xs.length := by
      by_cases e : j = xs.length
      · exact e
      · rw [List.getElem?_eq_none (by simp; omega)] at hy; cases hy
    subst hj2
    rw [List.getElem?_append_right (Nat.le_refl _)] at hy
    rw [List.getElem?_append_right (by rw [h.len]; exact Nat.le_refl _)] at hz
    simp only [Nat.sub_self, List.getElem?_cons_zero, Option.some.injEq] at hy
    rw [h.len] at hz
    simp only [Nat.sub_self, List.getElem?_cons_zero, Option.some.injEq] at hz
    subst hy hz
    refine ⟨g, rfl, fin _ g ?_ (IsRx.lt x g hx)⟩
    intro q hq
    refine ⟨by have := hq.1; omega, fun e => ?_, hq.2⟩
    have := hv q e.symm
    have := hq.1
    omega
theorem owns_one (w : World) (B : Nat) (hB : B ≤ w.heap.size) (t : TypeId) (u : Value) : (w.alloc (.cells #[u] t)).ownsRow B t 1 (.slice (some ⟨w.heap.size, 0, none⟩) 1 1) 1 [u] := by
  refine ⟨by simp, .inr ⟨w.heap.size, 1, #[u], rfl, hB, (by show (w.heap.push _)[w.heap.size]? = _; simp), ?_, ?_, ?_, ?_⟩⟩ <;> first | rfl | simp | (unfold maxLen; decide)
/-- the row's beginning: one that was read -/
theorem LR.start {b : Nat} {w w1 : World} (hk : Keep b w w1) (hb : b < w.heap.size) (q : Option Addr) : LR b w (.slice (some ⟨w1.heap.size, 0, none⟩) 1 1) [.pointer q] (w1.alloc (.cells #[.pointer q] 28)) :=
  ⟨hk.alloc _, hb, owns_one w1 _ hk.size _ _, fun u hu => by simp at hu; exact ⟨q, hu⟩, by simp⟩
theorem Good.start {w w1 : World} {x : Ex} {g : Nat} (hx : IsRx (fun g => w.heap.size ≤ g) w1 x g) : Good w (.slice (some ⟨w1.heap.size, 0, none⟩) 1 1) [x] [.pointer (some ⟨g, 0, none⟩)] (w1.alloc (.cells #[.pointer (some ⟨g, 0, none⟩)] 28)) := by
  refine ⟨rfl, ?_⟩
  intro j y u hy hu
  match j, hy, hu with
  | 0, hy, hu =>
    simp at hy hu
    subst hy hu
    refine ⟨g, rfl, IsRx.stay (Stay.below ((Below.refl _ _).alloc (Nat.le_refl _) _)) (fun q hq => ⟨hq.1, ?_⟩) _ g (IsRx.lt _ g hx)⟩
    intro e
    simp [Value.ownBlock] at e
    have := hq.2
    omega
  | j + 1, hy, _ => simp at hy
end
section
open Go.RowKit
def RCondAt (w : World) (x : Option Ex) (v : Value) : Prop := match x with
  | none => v = .pointer none
  | some x => ∃ g, v = .pointer (some ⟨g, 0, none⟩) ∧ IsRx (fun _ => True) w x g ∧ x.size ≤ 1000000 ∧ x.text.length ≤ 1000000
def RRungAt (w : World) (g i : Nat) (r : Ld.Rng) : Prop :=
  ∃ v, w.cell? ⟨g, i * 3, none⟩ = some (.int .i64 r.kind) ∧ w.cell? ⟨g, i * 3 + 1, none⟩ = some (.string ⟨r.name.toArray⟩) ∧ w.cell? ⟨g, i * 3 + 2, none⟩ = some v ∧ r.name.length ≤ maxLen ∧ I64 r.kind ∧ RCondAt w r.cond v
def RRungsAt (w : World) (sv : Value) (rs : List Ld.Rng) : Prop :=
  (rs = [] ∧ ∃ a cap, sv = .slice a 0 cap) ∨ ∃ g cap, sv = .slice (some ⟨g, 0, none⟩) rs.length cap ∧ rs.length ≤ cap ∧ rs.length ≤ 1000000 ∧ ∀ (i : Nat) (r : Ld.Rng), rs[i]? = some r → RRungAt w g i r
/-- the document's program -/
def IsRPrg (w : World) (p : Ld.Prg) (v : Value) : Prop := ∃ nv rv, v = .agg #[nv, rv] ∧ NamesAt w nv p.names ∧ RRungsAt w rv p.rungs
theorem RCondAt.below {w w' : World} {x : Option Ex} {v : Value} (h : RCondAt w x v) (hb : Below w.heap.size w w') : RCondAt w' x v := by
  cases x with
  | none => exact h
  | some x =>
    obtain ⟨g, h1, h2, h3⟩ := h
    exact ⟨g, h1, IsRx.stay (Stay.below hb) (fun _ h => h) x g h2, h3⟩
theorem RRungAt.below {w w' : World} {g i : Nat} {r : Ld.Rng} (h : RRungAt w g i r) (hb : Below w.heap.size w w') : RRungAt w' g i r := by
  obtain ⟨v, h1, h2, h3, h4, h5, h6⟩ := h
  exact ⟨v, (hb.cell (World.block_lt_of_cell? _ _ h1)).trans h1, (hb.cell (World.block_lt_of_cell? _ _ h2)).trans h2, (hb.cell (World.block_lt_of_cell? _ _ h3)).trans h3, h4, h5, h6.below hb⟩
theorem RRungsAt.below {w w' : World} {sv : Value} {rs : List Ld.Rng} (h : RRungsAt w sv rs) (hb : Below w.heap.size w w') : RRungsAt w' sv rs := by
  rcases h with h | ⟨g, cap, h1, h2, h3, h4⟩
  · exact .inl h
  · exact .inr ⟨g, cap, h1, h2, h3, fun i n hi => (h4 i n hi).below hb⟩
theorem IsRPrg.below {w w' : World} {p : Ld.Prg} {v : Value} (h : IsRPrg w p v) (hb : Below w.heap.size w w') : IsRPrg w' p v := by
  obtain ⟨nv, rv, h1, h2, h3⟩ := h
  exact ⟨nv, rv, h1, h2.below hb, h3.below hb⟩
theorem RRungsAt.slice {w : World} {sv : Value} {rs : List Ld.Rng} (h : RRungsAt w sv rs) : ∃ a c, sv = .slice a rs.length c ∧ rs.length ≤ 1000000 := by
  rcases h with ⟨rfl, a, c, rfl⟩ | ⟨g, cap, rfl, _, h3, _⟩
  · exact ⟨a, c, rfl, by simp⟩
  · exact ⟨_, _, rfl, h3⟩
/-- a name of a slice of names, as one reads it -/
theorem NamesAt.at_ {w : World} {a : Option Addr} {n c : Nat} {ns : List Ld.Nme} (h : NamesAt w (.slice a n c) ns) {i : Nat} {x : Ld.Nme} (hi : ns[i]? = some x) : ∃ g, a = some ⟨g, 0, none⟩ ∧ n ≤ c ∧ NameAt w g i x := by
  rcases h with ⟨rfl, _⟩ | ⟨g, cap, h1, h2, h3, h4⟩
  · simp at hi
  · simp only [Value.slice.injEq] at h1
    obtain ⟨rfl, rfl, rfl⟩ := h1
    exact ⟨g, rfl, h2, h4 i x hi⟩
theorem RRungsAt.at_ {w : World} {a : Option Addr} {n c : Nat} {rs : List Ld.Rng} (h : RRungsAt w (.slice a n c) rs) {i : Nat} {x : Ld.Rng} (hi : rs[i]? = some x) : ∃ g, a = some ⟨g, 0, none⟩ ∧ n ≤ c ∧ RRungAt w g i x := by
  rcases h with ⟨rfl, _⟩ | ⟨g, cap, h1, h2, h3, h4⟩
  · simp at hi
  · simp only [Value.slice.injEq] at h1
    obtain ⟨rfl, rfl, rfl⟩ := h1
    exact ⟨g, rfl, h2, h4 i x hi⟩
end
section
open Go.RowKit
theorem own_below {W W' : World} {q : Nat} {e : TypeId} {s : Nat} {v : Value} {n : Nat} {xs : List Value} (h : W.ownsRow q e s v n xs) (hb : Below W.heap.size W W') : W'.ownsRow q e s v n xs :=
  h.kept (grown_below hb) (by cases v.ownBlock with | none => exact .inl rfl | some g => exact .inr (by simp))
theorem own_mono {W : World} {q q' : Nat} {e : TypeId} {s : Nat} {v : Value} {n : Nat} {xs : List Value} (h : W.ownsRow q e s v n xs) (hq : q' ≤ q) : W.ownsRow q' e s v n xs := by
  refine ⟨h.1, ?_⟩
  rcases h.2 with h1 | ⟨g, cap, cur, h1, h2, h3⟩
  · exact .inl h1
  · exact .inr ⟨g, cap, cur, h1, Nat.le_trans hq h2, h3⟩
set_option maxHeartbeats 4000000 in
set_option maxRecDepth 100000 in
theorem numbers_any (ns : List Ld.Nme) (nv rv f : Value) (p : Ld.Nme → Bool) (w : World) (hn : NamesAt w nv ns) (hr : ∃ a n c, rv = .slice a n c) (hf : NPred w f p) :
    Calls Tryz.prog 120 #[.agg #[nv, rv], f] w fun e w' => ∃ v, e = .returned v ∧ w'.ownsRow w.heap.size 3 1 v (Ld.placesTo p ns ns.length).length ((Ld.placesTo p ns ns.length).map intV) ∧ Below w.heap.size w w' := by
  obtain ⟨ra, rn, rc, rfl⟩ := hr
  obtain ⟨i0, hi0, hz0, hz1, hz2⟩ := info_parts Tryz.infoInt
  obtain ⟨K, c, rfl, hent, hp⟩ := hf
  have hent' : ∀ (args : Array Value) (w : World), (callFunc K args).run Tryz.prog w = .ok (.enter K args) w := hent
  have HP := hide hp
  have HNA := hide hn
  obtain ⟨na, nc, rfl, hlen⟩ := hn.slice
  clear hent hp hn
  obtain ⟨n, hnn⟩ : ∃ n, n = ns.length := ⟨_, rfl⟩
  have HN := hide hnn
  rw [← hnn] at HNA hlen
  rw [← hnn]
  clear hnn
  obtain ⟨wA, hwA⟩ : ∃ wA, wA = w.alloc (.cells #[.slice na n nc, .slice ra rn rc] 83) := ⟨_, rfl⟩
  have hbA : Below w.heap.size w wA := by rw [hwA]; exact (Below.refl _ _).alloc (Nat.le_refl _) _
  have HWA := hide hwA
  have HBA := hide hbA
  go_enter Tryz.func120, Tryz.ntmps120
  go_wp2_with fail
  rw [← hwA]
  clear hwA hbA
  go_loopw [5, 11] (fun l i wr => ∃ k : Nat, k ≤ n ∧ i = .int .i64 (k : Int) ∧ (∃ a c, l = .slice a (Ld.placesTo p ns k).length c) ∧ Hid (wr.ownsRow w.heap.size 3 1 l (Ld.placesTo p ns k).length ((Ld.placesTo p ns k).map intV)) ∧ Hid (Below w.heap.size w wr)) (fun _ i _ => n - (intOf i).toNat)
  case atStart => exact ⟨0, Nat.zero_le _, rfl, ⟨_, _, rfl⟩, World.ownsRow_nil _ _ _ _, HBA.out⟩
  case round =>
    obtain ⟨k, hk, rfl, ⟨la, lc, rfl⟩, HO, HB⟩ := hrel
    have hple := Ld.placesTo_le p ns k
    by_cases hlt : k < n
    · have hkl : k < ns.length := by rw [← HN.out]; exact hlt
      obtain ⟨g, rfl, hca, e1, e2, e3, e4, e5⟩ : ∃ g, na = some ⟨g, 0, none⟩ ∧ n ≤ nc ∧ NameAt wr g k ns[k] := by
        rcases HNA.out.below HB.out with ⟨h0, _⟩ | ⟨g, cap, h1, h2, h3, h4⟩
        · rw [h0] at hkl; simp at hkl
        · simp only [Value.slice.injEq] at h1
          exact ⟨g, h1.1, by rw [h1.2.2, h1.2.1]; exact h2, h4 k _ (List.getElem?_eq_getElem hkl)⟩
      have HSU := hide (Ld.placesTo_succ p ns k hkl)
      have hgw : g < wr.heap.size := World.block_lt_of_cell? _ _ e1
      have HCALL := hide (fun W hW => HP.out ns[k] W hW e4)
      clear e4 e5
      generalize ns[k] = y at *
      obtain ⟨ynm, yk, yc⟩ := y
      simp only at e1 e2 e3
      obtain ⟨wB, hwB⟩ : ∃ wB, wB = wr.alloc (.cells #[.string ⟨ynm.toArray⟩, .int .i64 yk, .int .i64 yc] 201) := ⟨_, rfl⟩
      have hbB : Below wr.heap.size wr wB := by rw [hwB]; exact (Below.refl _ _).alloc (Nat.le_refl _) _
      have HC := hide (HCALL.out wB (HB.out.trans (hbB.mono HB.out.size)))
      have HWB := hide hwB
      have HBB := hide hbB
      rw [hwB] at HC
      clear hwB hbB HCALL
      generalize hpl : Ld.placesTo p ns k = pl at *
      go_wp2_with fail
      refine HC.out.mono ?_
      rintro e w1 ⟨rfl, hb1⟩
      rw [← HWB.out] at hb1
      have hb2 : Below wr.heap.size wr w1 := HBB.out.trans (hb1.mono HBB.out.size)
      have HB1 := hide (HB.out.trans (hb2.mono HB.out.size))
      have HO1 := hide (own_below HO.out hb2)
      have HQ := HB1.out.size
      clear hb1 hb2 HC
      cases hpy : p ⟨ynm, yk, yc⟩ with
      | true =>
        rw [hpy] at HSU
        have HOWN : Hid (∀ o, (w1.alloc o).ownsRow w.heap.size 3 1 (.slice la pl.length lc) pl.length (pl.map intV)) := fun o => HO1.out.alloc o
        have HONE : Hid (∀ u ∈ [Value.int .i64 (k : Int)], u.oneCell' = true) := by
          intro u hu
          simp only [List.mem_cons, List.not_mem_nil, or_false] at hu
          subst hu; rfl
        have HFIN : Hid (∀ (o : Obj) (g cap : Nat) (wA : World), wA.ownsRow w.heap.size 3 1 (.slice (some ⟨g, 0, none⟩) (pl.length + 1) cap) (pl.length + 1) (pl.map intV ++ [intV k]) → (w1.alloc o).grownBy wA (Value.slice la pl.length lc).ownBlock →
            (wA.ownsRow w.heap.size 3 1 (.slice (some ⟨g, 0, none⟩) (pl.length + 1) cap) (Ld.placesTo p ns (k + 1)).length ((Ld.placesTo p ns (k + 1)).map intV) ∧ (Ld.placesTo p ns (k + 1)).length = pl.length + 1) ∧ Below w.heap.size w wA) := by
          intro o g cap wA hown hgrow
          rw [HSU.out, if_pos rfl]
          refine ⟨⟨by simpa using hown, by simp⟩, ?_⟩
          refine (HB1.out.alloc HB1.out.size o).grown hgrow (by simp; omega) (fun j e => (HO1.out.lt j e).1)
        clear HO1
        go_wp2_with (at_builtin; refine wpList_append_lies _ rfl (.tmp 19) (.tmp 21) 36 rfl w.heap.size 3 i0 _ 1 8 Tryz.underlying36 hi0 hz0 hz1 hz2 rfl (by decide) (.slice la pl.length lc) pl.length (pl.map intV) rfl (HOWN.out _) ⟨w1.heap.size, 0, none⟩ 1 1 [.int .i64 (k : Int)] rfl rfl (World.news_of_block (heap_alloc_new w1 _)) HONE.out (by decide) (by unfold maxLen; omega) (by omega) (by simp; omega) (w1.heap.size + 1) (by simp) ?_; intro g2 cap2 wC hown hgrow hat hltg; obtain ⟨⟨hoC, hlC⟩, hbC⟩ := HFIN.out _ g2 cap2 wC hown hgrow; have HOC := hide hoC; have HLC := hide hlC; have HBC := hide hbC; clear hoC hlC hbC hown hgrow hat)
        go_roundw
        case rel => exact ⟨k + 1, by omega, by go_num, ⟨_, _, by rw [HLC.out]⟩, HOC.out, HBC.out⟩
        case measure => simp [intOf]; omega
      | false =>
        rw [hpy] at HSU
        have HSE : Hid (Ld.placesTo p ns (k + 1) = pl) := by show _ = _; rw [HSU.out]; simp
        go_wp2_with fail
        go_roundw
        case rel => exact ⟨k + 1, by omega, by go_num, ⟨_, _, by rw [HSE.out]⟩, by rw [HSE.out]; exact HO1.out, HB1.out⟩
        case measure => simp [intOf]; omega
    · have hkn : k = n := by omega
      subst hkn
      go_wp2_with fail
      go_ret
      exact ⟨_, rfl, HO.out, HB.out⟩
theorem kind1_any (b : Nat) (s : Int) (n : Ld.Nme) (w : World) (hc : w.cell? ⟨b, 0, none⟩ = some (.int .i64 s)) :
    Calls Tryz.prog 121 #[.agg #[.string ⟨n.name.toArray⟩, .int .i64 n.kind, .int .i64 n.count], .pointer (some ⟨b, 0, none⟩)] w fun e w' => e = .returned (.bool (n.kind == s)) ∧ Below w.heap.size w w' := by
  obtain ⟨nm, k, c⟩ := n
  have hlt : b < w.heap.size := World.block_lt_of_cell? _ _ hc
  by_cases h : k = s
  all_goals
    go_enter Tryz.func121, Tryz.ntmps121
    go_wp2
    go_ret
    exact ⟨by simp [h], (Below.refl _ _).alloc (Nat.le_refl _) _⟩
set_option maxHeartbeats 2000000 in
set_option maxRecDepth 100000 in
theorem Kind_any (ns : List Ld.Nme) (nv rv : Value) (s : Int) (w : World) (hn : NamesAt w nv ns) (hr : ∃ a n c, rv = .slice a n c) :
    Calls Tryz.prog 74 #[.agg #[nv, rv], .int .i64 s] w fun e w' => ∃ v, e = .returned v ∧ w'.ownsRow w.heap.size 3 1 v (Ld.kindL ns s).length ((Ld.kindL ns s).map intV) ∧ Below w.heap.size w w' := by
  have hmf : ∀ (fn : Fn) (first cap : Array Value) (w : World), (Instr.makeFunc fn first cap).run Tryz.prog w = .ok (.func fn first cap) w := fun _ _ _ _ => rfl
  obtain ⟨ra, rn, rc, rfl⟩ := hr
  have HNA := hide hn
  obtain ⟨na, nc, rfl, _⟩ := hn.slice
  clear hn
  generalize ns.length = nn at *
  obtain ⟨w2, hw2⟩ : ∃ w2, w2 = (w.alloc (.cells #[.slice na nn nc, .slice ra rn rc] 83)).alloc (.cells #[.int .i64 s] 3) := ⟨_, rfl⟩
  have hb2 : Below w.heap.size w w2 := by rw [hw2]; exact ((Below.refl _ _).alloc (Nat.le_refl _) _).alloc (by simp) _
  have hc2 : w2.cell? ⟨w.heap.size + 1, 0, none⟩ = some (.int .i64 s) := by rw [hw2]; simp [go_sem]
  have hs2 : w2.heap.size = w.heap.size + 1 + 1 := by rw [hw2]; simp
  have HI := hide (numbers_any ns (.slice na nn nc) (.slice ra rn rc) (.func (.func 121) #[] #[.pointer (some ⟨w.heap.size + 1, 0, none⟩)]) (fun n => n.kind == s) w2 (HNA.out.below hb2) ⟨_, _, _, rfl⟩
    ⟨121, _, rfl, fun _ _ => by kernel_rfl, fun n W hW hn => kind1_any _ s n W ((hW.cell (p := ⟨w.heap.size + 1, 0, none⟩) (by show w.heap.size + 1 < _; omega)).trans hc2)⟩)
  rw [hw2] at HI
  have HB2 := hide hb2
  have HW2 := hide hw2
  clear hb2 hc2 hs2 hw2
  go_enter Tryz.func74, Tryz.ntmps74
  go_wp2_with fail
  refine HI.out.mono ?_
  rintro e w3 ⟨v, rfl, hown, hb3⟩
  rw [← HW2.out] at hown hb3
  have HO := hide (own_mono hown HB2.out.size)
  have HB3 := hide (HB2.out.trans (hb3.mono HB2.out.size))
  obtain ⟨a, c, rfl⟩ := own_slice hown
  clear hown hb3 HI
  go_wp2_with fail
  go_ret
  exact ⟨_, rfl, HO.out, HB3.out⟩
end
end Go.Proofs.YtgldbliohpfljaaGreatDoor
