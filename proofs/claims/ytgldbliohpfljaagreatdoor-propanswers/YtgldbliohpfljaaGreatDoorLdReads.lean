/-
  The walks of package ladder's readCount, readName and readHead.
-/
import Derived.Test.YtgldbliohpfljaaGreatDoorLdCheckAll
import Derived.Test.YtgldbliohpfljaaGreatDoorRtParseAll
import Derived.Test.YtgldbliohpfljaaGreatDoorLdWordsAll
namespace Go.Proofs.YtgldbliohpfljaaGreatDoor
open Go.RowKit
/-- the library's two errors that Atoi hands back, as they are laid: something that is not nil -/
def NumErrs (w : World) : Prop := (∃ te pe, w.cell? ⟨7, 0, none⟩ = some (.iface te pe)) ∧ ∃ te pe, w.cell? ⟨8, 0, none⟩ = some (.iface te pe)
theorem NumErrs.low {w w' : World} {b : Nat} (h : NumErrs w) (hb : Below b w w') (hG : 14 ≤ b) : NumErrs w' := by
  obtain ⟨⟨t1, p1, h1⟩, t2, p2, h2⟩ := h
  exact ⟨⟨t1, p1, (hb.cell (p := ⟨7, 0, none⟩) (Nat.lt_of_lt_of_le (by decide : 7 < 14) hG)).trans h1⟩, t2, p2, (hb.cell (p := ⟨8, 0, none⟩) (Nat.lt_of_lt_of_le (by decide : 8 < 14) hG)).trans h2⟩
theorem atoi_i64 (s : List UInt8) (v : Int) (h : Lib.atoiAll s = .ok v) : I64 v := by
  unfold I64
  cases s with
  | nil => simp [Lib.atoiAll] at h
  | cons c r =>
    unfold Lib.atoiAll at h
    simp only at h
    split at h
    · cases h
    · cases h
    · split at h
      · cases h
      · split at h
        · cases h
        · rename_i u _ h1 h2
          simp only [Lib.NumEnd.ok.injEq] at h
          by_cases hc : c.toNat = 45
          · rw [if_pos hc] at h; simp [hc] at h2; omega
          · rw [if_neg hc] at h; simp [hc] at h1; omega
set_option maxHeartbeats 2000000 in
set_option maxRecDepth 100000 in
theorem readCount_any (s : List UInt8) (w : World) (hs : s.length ≤ 20000) (hN : NumErrs w) (hP : Pows w) (hG : 14 ≤ w.heap.size) :
    Calls Tryz.prog 232 #[.string ⟨s.toArray⟩] w fun e w' => ∃ n, I64 n ∧ e = .returned (.tuple #[.int .i64 n, .bool (Ld.rdCount s).isSome]) ∧ (∀ m, Ld.rdCount s = some m → m = n) ∧ Below w.heap.size w w' := by
  have e0 : (⟨s.toArray⟩ : ByteArray).data.toList = s := rfl
  have es : (⟨s.toArray⟩ : ByteArray).size = s.length := by simp [ByteArray.size]
  cases ha : Lib.atoiAll s with
  | ok v =>
    have HC := hide (Tryz.strconv_Atoi_ok ⟨s.toArray⟩ (by rw [es]; omega) v (by rw [e0]; exact ha) w)
    have HV := hide (atoi_i64 s v ha)
    have HR : Hid (Ld.rdCount s = if Lib.itoa v = s then some v else none) := by show _ = _; unfold Ld.rdCount; rw [ha]
    have HIT0 : Hid (∀ W, Pows W → Calls Tryz.prog 263 #[.int .i64 v] W fun e w' => e = .returned (.string ⟨(Lib.itoa v).toArray⟩) ∧ Below W.heap.size W w') := by
      intro W hp
      refine (Tryz.strconv_Itoa v HV.out.1 HV.out.2 W hp).mono ?_
      rintro e w4 ⟨rfl, kk, os, rfl⟩
      exact ⟨rfl, bgrow _ _ _⟩
    have HP := hide hP
    clear ha e0 es hN hP
    generalize Lib.itoa v = iv at *
    have hb1 := bytes_list iv
    have hb2 := bytes_list s
    go_enter Tryz.func232, Tryz.ntmps232
    go_wp2_with fail
    refine HC.out.mono ?_
    rintro e w1 ⟨rfl, hw1⟩
    have hbw : Below w.heap.size w w1 := by
      rcases hw1 with rfl | ⟨t, rfl⟩
      · exact Below.refl _ _
      · exact Lib.bytesWorld_below _ _ _
    have HB := hide hbw
    have HIT := hide (HIT0.out w1 (HP.out.low hbw hG))
    clear hw1 hbw HC
    go_wp2_with fail
    refine HIT.out.mono ?_
    rintro e w2 ⟨rfl, hb⟩
    have HB2 := hide (HB.out.trans (hb.mono HB.out.size))
    clear hb HIT
    by_cases hq : iv = s
    · subst hq
      go_wp2_with fail
      go_ret2
      exact ⟨v, HV.out, by rw [HR.out, if_pos trivial]; rfl, fun m hm => (by rw [HR.out, if_pos trivial] at hm; cases hm; rfl), HB2.out⟩
    · have HQ := hide hq
      have hqb : (iv == s) = false := by simpa using hq
      clear hq
      go_wp2_with fail
      go_ret2
      exact ⟨v, HV.out, by rw [HR.out, if_neg HQ.out]; rfl, fun m hm => (by rw [HR.out, if_neg HQ.out] at hm; cases hm), HB2.out⟩
  | «syntax» =>
    obtain ⟨te, pe, hv⟩ := hN.1
    have HC := hide (Tryz.strconv_Atoi_syntax ⟨s.toArray⟩ (by rw [es]; omega) (by rw [e0]; exact ha) _ w hv (.inr ⟨te, pe, rfl⟩))
    have HR : Hid (Ld.rdCount s = none) := by show _ = _; unfold Ld.rdCount; rw [ha]
    clear ha e0 es hv hN hP
    go_enter Tryz.func232, Tryz.ntmps232
    go_wp2_with fail
    refine HC.out.mono ?_
    rintro e w1 ⟨N, rfl, _, _, hb⟩
    have HB := hide hb
    clear hb HC
    go_wp2_with fail
    go_ret2
    exact ⟨0, ⟨by omega, by omega⟩, by rw [HR.out]; rfl, fun m hm => (by rw [HR.out] at hm; cases hm), HB.out⟩
  | range =>
    obtain ⟨te, pe, hv⟩ := hN.2
    have HC := hide (Tryz.strconv_Atoi_range ⟨s.toArray⟩ (by rw [es]; omega) (by rw [e0]; exact ha) _ w hv (.inr ⟨te, pe, rfl⟩))
    have HR : Hid (Ld.rdCount s = none) := by show _ = _; unfold Ld.rdCount; rw [ha]
    have HS : Hid (I64 (Lib.atoiSat (⟨s.toArray⟩ : ByteArray).data.toList)) := by
      show I64 _
      unfold Lib.atoiSat I64
      split <;> omega
    clear ha e0 es hv hN hP
    generalize Lib.atoiSat (⟨s.toArray⟩ : ByteArray).data.toList = sat at *
    go_enter Tryz.func232, Tryz.ntmps232
    go_wp2_with fail
    refine HC.out.mono ?_
    rintro e w1 ⟨N, rfl, _, _, hb⟩
    have HB := hide hb
    clear hb HC
    go_wp2_with fail
    go_ret2
    exact ⟨sat, HS.out, by rw [HR.out]; rfl, fun m hm => (by rw [HR.out] at hm; cases hm), HB.out⟩
namespace Ld
/-- the kind among the first k words -/
def kf (W : Nat → List UInt8) (w0 : List UInt8) : Nat → Nat
  | 0 => 0
  | k + 1 => if W k = w0 then k else kf W w0 k
theorem kf_names (w0 : List UInt8) (h : w0 ≠ []) : kf nameW w0 5 = kindN w0 := by
  by_cases h1 : w0 = nameW 1
  · subst h1; decide
  by_cases h2 : w0 = nameW 2
  · subst h2; decide
  by_cases h3 : w0 = nameW 3
  · subst h3; decide
  by_cases h4 : w0 = nameW 4
  · subst h4; decide
  have e0 : ¬ nameW 0 = w0 := fun e => h e.symm
  simp only [kf, kindN]
  rw [if_neg (Ne.symm h4), if_neg (Ne.symm h3), if_neg (Ne.symm h2), if_neg (Ne.symm h1), if_neg e0, if_neg h1, if_neg h2, if_neg h3, if_neg h4]
theorem kf_succ (W : Nat → List UInt8) (w0 : List UInt8) (k : Nat) : kf W w0 (k + 1) = if W k = w0 then k else kf W w0 k := rfl
end Ld
/-- the list of words in memory: its first ones -/
@[local go_sem] theorem ixn0 (w : World) : (Instr.index 345 (.agg #[.string ⟨#[]⟩, .string ⟨#[105, 110, 112, 117, 116]⟩, .string ⟨#[99, 111, 105, 108]⟩, .string ⟨#[116, 105, 109, 101, 114]⟩, .string ⟨#[99, 111, 117, 110, 116, 101, 114]⟩]) (.int .i64 0)).run Tryz.prog w = .ok (.string ⟨#[]⟩) w := by kernel_rfl
@[local go_sem] theorem ixn1 (w : World) : (Instr.index 345 (.agg #[.string ⟨#[]⟩, .string ⟨#[105, 110, 112, 117, 116]⟩, .string ⟨#[99, 111, 105, 108]⟩, .string ⟨#[116, 105, 109, 101, 114]⟩, .string ⟨#[99, 111, 117, 110, 116, 101, 114]⟩]) (.int .i64 1)).run Tryz.prog w = .ok (.string ⟨#[105, 110, 112, 117, 116]⟩) w := by kernel_rfl
@[local go_sem] theorem ixn2 (w : World) : (Instr.index 345 (.agg #[.string ⟨#[]⟩, .string ⟨#[105, 110, 112, 117, 116]⟩, .string ⟨#[99, 111, 105, 108]⟩, .string ⟨#[116, 105, 109, 101, 114]⟩, .string ⟨#[99, 111, 117, 110, 116, 101, 114]⟩]) (.int .i64 2)).run Tryz.prog w = .ok (.string ⟨#[99, 111, 105, 108]⟩) w := by kernel_rfl
@[local go_sem] theorem ixn3 (w : World) : (Instr.index 345 (.agg #[.string ⟨#[]⟩, .string ⟨#[105, 110, 112, 117, 116]⟩, .string ⟨#[99, 111, 105, 108]⟩, .string ⟨#[116, 105, 109, 101, 114]⟩, .string ⟨#[99, 111, 117, 110, 116, 101, 114]⟩]) (.int .i64 3)).run Tryz.prog w = .ok (.string ⟨#[116, 105, 109, 101, 114]⟩) w := by kernel_rfl
@[local go_sem] theorem ixn4 (w : World) : (Instr.index 345 (.agg #[.string ⟨#[]⟩, .string ⟨#[105, 110, 112, 117, 116]⟩, .string ⟨#[99, 111, 105, 108]⟩, .string ⟨#[116, 105, 109, 101, 114]⟩, .string ⟨#[99, 111, 117, 110, 116, 101, 114]⟩]) (.int .i64 4)).run Tryz.prog w = .ok (.string ⟨#[99, 111, 117, 110, 116, 101, 114]⟩) w := by kernel_rfl
@[local go_sem] theorem ixr0 (w : World) : (Instr.index 347 (.agg #[.string ⟨#[]⟩, .string ⟨#[]⟩, .string ⟨#[115, 101, 116]⟩, .string ⟨#[114, 101, 115, 101, 116]⟩, .string ⟨#[114, 117, 110]⟩, .string ⟨#[99, 111, 117, 110, 116]⟩, .string ⟨#[122, 101, 114, 111]⟩]) (.int .i64 0)).run Tryz.prog w = .ok (.string ⟨#[]⟩) w := by kernel_rfl
@[local go_sem] theorem ixr1 (w : World) : (Instr.index 347 (.agg #[.string ⟨#[]⟩, .string ⟨#[]⟩, .string ⟨#[115, 101, 116]⟩, .string ⟨#[114, 101, 115, 101, 116]⟩, .string ⟨#[114, 117, 110]⟩, .string ⟨#[99, 111, 117, 110, 116]⟩, .string ⟨#[122, 101, 114, 111]⟩]) (.int .i64 1)).run Tryz.prog w = .ok (.string ⟨#[]⟩) w := by kernel_rfl
@[local go_sem] theorem ixr2 (w : World) : (Instr.index 347 (.agg #[.string ⟨#[]⟩, .string ⟨#[]⟩, .string ⟨#[115, 101, 116]⟩, .string ⟨#[114, 101, 115, 101, 116]⟩, .string ⟨#[114, 117, 110]⟩, .string ⟨#[99, 111, 117, 110, 116]⟩, .string ⟨#[122, 101, 114, 111]⟩]) (.int .i64 2)).run Tryz.prog w = .ok (.string ⟨#[115, 101, 116]⟩) w := by kernel_rfl
@[local go_sem] theorem ixr3 (w : World) : (Instr.index 347 (.agg #[.string ⟨#[]⟩, .string ⟨#[]⟩, .string ⟨#[115, 101, 116]⟩, .string ⟨#[114, 101, 115, 101, 116]⟩, .string ⟨#[114, 117, 110]⟩, .string ⟨#[99, 111, 117, 110, 116]⟩, .string ⟨#[122, 101, 114, 111]⟩]) (.int .i64 3)).run Tryz.prog w = .ok (.string ⟨#[114, 101, 115, 101, 116]⟩) w := by kernel_rfl
@[local go_sem] theorem ixr4 (w : World) : (Instr.index 347 (.agg #[.string ⟨#[]⟩, .string ⟨#[]⟩, .string ⟨#[115, 101, 116]⟩, .string ⟨#[114, 101, 115, 101, 116]⟩, .string ⟨#[114, 117, 110]⟩, .string ⟨#[99, 111, 117, 110, 116]⟩, .string ⟨#[122, 101, 114, 111]⟩]) (.int .i64 4)).run Tryz.prog w = .ok (.string ⟨#[114, 117, 110]⟩) w := by kernel_rfl
@[local go_sem] theorem ixr5 (w : World) : (Instr.index 347 (.agg #[.string ⟨#[]⟩, .string ⟨#[]⟩, .string ⟨#[115, 101, 116]⟩, .string ⟨#[114, 101, 115, 101, 116]⟩, .string ⟨#[114, 117, 110]⟩, .string ⟨#[99, 111, 117, 110, 116]⟩, .string ⟨#[122, 101, 114, 111]⟩]) (.int .i64 5)).run Tryz.prog w = .ok (.string ⟨#[99, 111, 117, 110, 116]⟩) w := by kernel_rfl
@[local go_sem] theorem ixr6 (w : World) : (Instr.index 347 (.agg #[.string ⟨#[]⟩, .string ⟨#[]⟩, .string ⟨#[115, 101, 116]⟩, .string ⟨#[114, 101, 115, 101, 116]⟩, .string ⟨#[114, 117, 110]⟩, .string ⟨#[99, 111, 117, 110, 116]⟩, .string ⟨#[122, 101, 114, 111]⟩]) (.int .i64 6)).run Tryz.prog w = .ok (.string ⟨#[122, 101, 114, 111]⟩) w := by kernel_rfl
/-- what readName answers -/
def NameRead (l : List (List UInt8)) (w : World) (e : Ending) (w' : World) : Prop :=
  ∃ (nm : List UInt8) (k c : Int), e = .returned (.tuple #[.agg #[.string ⟨nm.toArray⟩, .int .i64 k, .int .i64 c], .bool (Ld.rdName l).isSome]) ∧ (∀ n, Ld.rdName l = some n → n = ⟨nm, k, c⟩ ∧ I64 k ∧ I64 c) ∧ Below w.heap.size w w'
set_option maxHeartbeats 4000000 in
set_option maxRecDepth 100000 in
theorem readName_any (sv : Value) (l : List (List UInt8)) (w : World) (hs : Strs w sv (l.map toBA)) (hl : ∀ y, y ∈ l → y.length ≤ 20000 ∧ y ≠ []) (hW : Words w) (hN : NumErrs w) (hP : Pows w) (hG : 14 ≤ w.heap.size) :
    Calls Tryz.prog 188 #[sv] w (NameRead l w) := by
  have few : ∀ (a : Option Addr) (n c : Nat), n < 2 → Ld.rdName l = none → Calls Tryz.prog 188 #[.slice a n c] w (NameRead l w) := by
    intro a n c hn hr
    have HR := hide hr
    clear hr hs hl hW hN hP
    go_enter Tryz.func188, Tryz.ntmps188
    go_wp2_with fail
    refine bodyPost_ret_by (v := .tuple #[.agg #[.string ⟨#[]⟩, .int .i64 0, .int .i64 0], .bool false]) ?_ rfl ⟨[], 0, 0, by rw [HR.out]; rfl, fun n h => (by rw [HR.out] at h; cases h), (Below.refl _ _).alloc (Nat.le_refl _) _⟩
    simp [results, Tryz.results188, go_sem]
  rcases hs.at with ⟨rfl, a, c, rfl⟩ | ⟨g, o, c, rfl, hc1, hc2, hcell⟩
  · exact few a 0 c (by omega) rfl
  match l, few, hl, hc1, hc2, hcell with
  | [], few, _, _, _, _ => exact few _ 0 c (by omega) rfl
  | [y], few, _, _, _, _ => exact few _ 1 c (by omega) rfl
  | w0 :: nm :: rest, _, hl, hc1, hc2, hcell =>
    have c0 : w.cell? ⟨g, o, none⟩ = some (.string ⟨w0.toArray⟩) := hcell 0 w0 rfl
    have c1 : w.cell? ⟨g, o + 1, none⟩ = some (.string ⟨nm.toArray⟩) := hcell 1 nm rfl
    have hg : g < w.heap.size := World.block_lt_of_cell? _ _ c0
    have h2 : ∀ (z : List UInt8) (t : List (List UInt8)), rest = z :: t → w.cell? ⟨g, o + 2, none⟩ = some (.string ⟨z.toArray⟩) := fun z t e => hcell 2 z (by rw [e]; rfl)
    have H2 := hide h2
    have hw0 : w0 ≠ [] := (hl w0 (by simp)).2
    have HL := hide hl
    have HKF := hide (Ld.kf_names w0 hw0)
    have n0 : w.cell? ⟨5, 0, none⟩ = some (.string ⟨#[]⟩) := hW.1 0 (by decide)
    have n1 : w.cell? ⟨5, 1, none⟩ = some (.string ⟨#[105, 110, 112, 117, 116]⟩) := hW.1 1 (by decide)
    have n2 : w.cell? ⟨5, 2, none⟩ = some (.string ⟨#[99, 111, 105, 108]⟩) := hW.1 2 (by decide)
    have n3 : w.cell? ⟨5, 3, none⟩ = some (.string ⟨#[116, 105, 109, 101, 114]⟩) := hW.1 3 (by decide)
    have n4 : w.cell? ⟨5, 4, none⟩ = some (.string ⟨#[99, 111, 117, 110, 116, 101, 114]⟩) := hW.1 4 (by decide)
    have hGn : 5 < w.heap.size := Nat.lt_of_lt_of_le (by decide : 5 < 14) hG
    have hG0 : ¬ w.heap.size = 0 := by omega
    have hG1 : ¬ w.heap.size = 1 := by omega
    have hG2 : 0 < w.heap.size := by omega
    have hG3 : 1 < w.heap.size := by omega
    have hbl := bytes_list w0
    have hbn := bytes_list nm
    have HN := hide hN
    have HP := hide hP
    obtain ⟨m, hm⟩ : ∃ m, m = (w0 :: nm :: rest).length := ⟨_, rfl⟩
    have HM := hide hm
    have hm2 : 2 ≤ m := by rw [hm]; simp
    rw [← hm] at hc1 hc2
    rw [← hm]
    clear hm hcell h2 hs hl hW hN hP hw0
    have HKF0 : Hid (Ld.kf Ld.nameW w0 0 = 0) := rfl
    go_enter Tryz.func188, Tryz.ntmps188
    go_wp2_with fail
    go_loopw [17] (fun i wr => ∃ k z : Nat, k ≤ 5 ∧ i = .int .i64 (k : Int) ∧ Hid (z = Ld.kf Ld.nameW w0 k) ∧ wr = (w.alloc (.cells #[.string ⟨#[]⟩, .int .i64 0, .int .i64 0] 201)).alloc (.cells #[.string ⟨nm.toArray⟩, .int .i64 (z : Int), .int .i64 0] 201)) (fun i _ => 5 - (intOf i).toNat)
    case atStart => exact ⟨0, 0, by omega, rfl, rfl, rfl⟩
    case round =>
      obtain ⟨k, z, hk, rfl, HZ, rfl⟩ := hrel
      have hk6 : k = 0 ∨ k = 1 ∨ k = 2 ∨ k = 3 ∨ k = 4 ∨ k = 5 := by omega
      rcases hk6 with rfl | rfl | rfl | rfl | rfl | rfl
      · rw [show ((0 : Nat) : Int) = 0 from rfl]
        by_cases he : [] = w0
        · have HS : Hid (0 = Ld.kf Ld.nameW w0 1) := by show _ = _; rw [Ld.kf_succ, if_pos (show Ld.nameW 0 = w0 from he)]
          have heb : ([] == w0) = true := by simpa using he
          clear he
          go_wp2_with fail
          go_roundw
          case rel => exact ⟨1, 0, by omega, rfl, HS.out, rfl⟩
          case measure => simp [intOf]
        · have HS : Hid (z = Ld.kf Ld.nameW w0 1) := by show _ = _; rw [Ld.kf_succ, if_neg (show ¬ Ld.nameW 0 = w0 from he)]; exact HZ.out
          have heb : ([] == w0) = false := by simpa using he
          clear he
          go_wp2_with fail
          go_roundw
          case rel => exact ⟨1, z, by omega, rfl, HS.out, rfl⟩
          case measure => simp [intOf]
      · rw [show ((1 : Nat) : Int) = 1 from rfl]
        by_cases he : [105, 110, 112, 117, 116] = w0
        · have HS : Hid (1 = Ld.kf Ld.nameW w0 2) := by show _ = _; rw [Ld.kf_succ, if_pos (show Ld.nameW 1 = w0 from he)]
          have heb : ([105, 110, 112, 117, 116] == w0) = true := by simpa using he
          clear he
          go_wp2_with fail
          go_roundw
          case rel => exact ⟨2, 1, by omega, rfl, HS.out, rfl⟩
          case measure => simp [intOf]
        · have HS : Hid (z = Ld.kf Ld.nameW w0 2) := by show _ = _; rw [Ld.kf_succ, if_neg (show ¬ Ld.nameW 1 = w0 from he)]; exact HZ.out
          have heb : ([105, 110, 112, 117, 116] == w0) = false := by simpa using he
          clear he
          go_wp2_with fail
          go_roundw
          case rel => exact ⟨2, z, by omega, rfl, HS.out, rfl⟩
          case measure => simp [intOf]
      · rw [show ((2 : Nat) : Int) = 2 from rfl]
        by_cases he : [99, 111, 105, 108] = w0
        · have HS : Hid (2 = Ld.kf Ld.nameW w0 3) := by show _ = _; rw [Ld.kf_succ, if_pos (show Ld.nameW 2 = w0 from he)]
          have heb : ([99, 111, 105, 108] == w0) = true := by simpa using he
          clear he
          go_wp2_with fail
          go_roundw
          case rel => exact ⟨3, 2, by omega, rfl, HS.out, rfl⟩
          case measure => simp [intOf]
        · have HS : Hid (z = Ld.kf Ld.nameW w0 3) := by show _ = _; rw [Ld.kf_succ, if_neg (show ¬ Ld.nameW 2 = w0 from he)]; exact HZ.out
          have heb : ([99, 111, 105, 108] == w0) = false := by simpa using he
          clear he
          go_wp2_with fail
          go_roundw
          case rel => exact ⟨3, z, by omega, rfl, HS.out, rfl⟩
          case measure => simp [intOf]
      · rw [show ((3 : Nat) : Int) = 3 from rfl]
        by_cases he : [116, 105, 109, 101, 114] = w0
        · have HS : Hid (3 = Ld.kf Ld.nameW w0 4) := by show _ = _; rw [Ld.kf_succ, if_pos (show Ld.nameW 3 = w0 from he)]
          have heb : ([116, 105, 109, 101, 114] == w0) = true := by simpa using he
          clear he
          go_wp2_with fail
          go_roundw
          case rel => exact ⟨4, 3, by omega, rfl, HS.out, rfl⟩
          case measure => simp [intOf]
        · have HS : Hid (z = Ld.kf Ld.nameW w0 4) := by show _ = _; rw [Ld.kf_succ, if_neg (show ¬ Ld.nameW 3 = w0 from he)]; exact HZ.out
          have heb : ([116, 105, 109, 101, 114] == w0) = false := by simpa using he
          clear he
          go_wp2_with fail
          go_roundw
          case rel => exact ⟨4, z, by omega, rfl, HS.out, rfl⟩
          case measure => simp [intOf]
      · rw [show ((4 : Nat) : Int) = 4 from rfl]
        by_cases he : [99, 111, 117, 110, 116, 101, 114] = w0
        · have HS : Hid (4 = Ld.kf Ld.nameW w0 5) := by show _ = _; rw [Ld.kf_succ, if_pos (show Ld.nameW 4 = w0 from he)]
          have heb : ([99, 111, 117, 110, 116, 101, 114] == w0) = true := by simpa using he
          clear he
          go_wp2_with fail
          go_roundw
          case rel => exact ⟨5, 4, by omega, rfl, HS.out, rfl⟩
          case measure => simp [intOf]
        · have HS : Hid (z = Ld.kf Ld.nameW w0 5) := by show _ = _; rw [Ld.kf_succ, if_neg (show ¬ Ld.nameW 4 = w0 from he)]; exact HZ.out
          have heb : ([99, 111, 117, 110, 116, 101, 114] == w0) = false := by simpa using he
          clear he
          go_wp2_with fail
          go_roundw
          case rel => exact ⟨5, z, by omega, rfl, HS.out, rfl⟩
          case measure => simp [intOf]
      · have HZK : Hid (z = Ld.kindN w0) := by show _ = _; rw [HZ.out, HKF.out]
        clear HZ HKF HKF0
        have hz5 : z = 0 ∨ z = 1 ∨ z = 2 ∨ z = 3 ∨ z = 4 := by
          rw [HZK.out]; unfold Ld.kindN
          split
          · omega
          split
          · omega
          split
          · omega
          split <;> omega
        have HBW : Hid (∀ a b c d : Value, Below w.heap.size w ((w.alloc (.cells #[.string ⟨nm.toArray⟩, a, b] 201)).alloc (.cells #[.string ⟨nm.toArray⟩, c, d] 201))) := fun a b c d => ((Below.refl _ _).alloc (Nat.le_refl _) _).alloc (by simp) _
        have HBW2 : Hid (∀ a b c d e : Value, Below w.heap.size w ((w.alloc (.cells #[a, b, c] 201)).alloc (.cells #[.string ⟨nm.toArray⟩, d, e] 201))) := fun a b c d e => ((Below.refl _ _).alloc (Nat.le_refl _) _).alloc (by simp) _
        rcases hz5 with rfl | rfl | rfl | rfl | rfl
        · rw [show ((0 : Nat) : Int) = 0 from rfl]
          by_cases hm' : m = 2
          · have hrest : rest = [] := by have := HM.out; rw [hm'] at this; simpa using this
            subst hrest
            have HR : Hid (Ld.rdName [w0, nm] = none) := by show _ = _; rw [Ld.rdName, ← HZK.out]; rfl
            subst hm'
            go_wp2_with (go_at_call 196; refine (isCounted_any _ _).mono ?_; rintro e w' ⟨rfl, rfl⟩; rw [show Ld.counted 0 = false from rfl])
            refine bodyPost_ret_by (v := .tuple #[.agg #[.string ⟨nm.toArray⟩, .int .i64 0, .int .i64 0], .bool false]) ?_ rfl ⟨nm, 0, 0, by rw [HR.out]; rfl, fun n h => (by rw [HR.out] at h; cases h), ?_⟩
            · simp [results, Tryz.results188, go_sem]
            · exact HBW.out _ _ _ _
          · have HR : Hid (Ld.rdName (w0 :: nm :: rest) = none) := by
              show _ = _
              have := HM.out
              match rest, this with
              | [], h => exact absurd h (by simpa using hm')
              | [y], _ => rw [Ld.rdName, ← HZK.out]; rfl
              | y :: y2 :: t, _ => rfl
            have hmb : ((m : Int) == 2) = false := by simp; omega
            go_wp2_with (go_at_call 196; refine (isCounted_any _ _).mono ?_; rintro e w' ⟨rfl, rfl⟩; rw [show Ld.counted 0 = false from rfl])
            refine bodyPost_ret_by (v := .tuple #[.agg #[.string ⟨nm.toArray⟩, .int .i64 0, .int .i64 0], .bool false]) ?_ rfl ⟨nm, 0, 0, by rw [HR.out]; rfl, fun n h => (by rw [HR.out] at h; cases h), ?_⟩
            · simp [results, Tryz.results188, go_sem]
            · exact HBW.out _ _ _ _
        · rw [show ((1 : Nat) : Int) = 1 from rfl]
          by_cases hm' : m = 2
          · have hrest : rest = [] := by have := HM.out; rw [hm'] at this; simpa using this
            subst hrest
            have HR : Hid (Ld.rdName [w0, nm] = some ⟨nm, 1, 0⟩) := by show _ = _; rw [Ld.rdName, ← HZK.out]; rfl
            subst hm'
            go_wp2_with (go_at_call 196; refine (isCounted_any _ _).mono ?_; rintro e w' ⟨rfl, rfl⟩; rw [show Ld.counted 1 = false from rfl])
            refine bodyPost_ret_by (v := .tuple #[.agg #[.string ⟨nm.toArray⟩, .int .i64 1, .int .i64 0], .bool true]) ?_ rfl ⟨nm, 1, 0, by rw [HR.out]; rfl, fun n h => (by rw [HR.out] at h; cases h; exact ⟨rfl, ⟨by decide, by decide⟩, ⟨by decide, by decide⟩⟩), ?_⟩
            · simp [results, Tryz.results188, go_sem]
            · exact HBW.out _ _ _ _
          · have HR : Hid (Ld.rdName (w0 :: nm :: rest) = none) := by
              show _ = _
              have := HM.out
              match rest, this with
              | [], h => exact absurd h (by simpa using hm')
              | [y], _ => rw [Ld.rdName, ← HZK.out]; rfl
              | y :: y2 :: t, _ => rfl
            have hmb : ((m : Int) == 2) = false := by simp; omega
            go_wp2_with (go_at_call 196; refine (isCounted_any _ _).mono ?_; rintro e w' ⟨rfl, rfl⟩; rw [show Ld.counted 1 = false from rfl])
            refine bodyPost_ret_by (v := .tuple #[.agg #[.string ⟨nm.toArray⟩, .int .i64 1, .int .i64 0], .bool false]) ?_ rfl ⟨nm, 1, 0, by rw [HR.out]; rfl, fun n h => (by rw [HR.out] at h; cases h), ?_⟩
            · simp [results, Tryz.results188, go_sem]
            · exact HBW.out _ _ _ _
        · rw [show ((2 : Nat) : Int) = 2 from rfl]
          by_cases hm' : m = 2
          · have hrest : rest = [] := by have := HM.out; rw [hm'] at this; simpa using this
            subst hrest
            have HR : Hid (Ld.rdName [w0, nm] = some ⟨nm, 2, 0⟩) := by show _ = _; rw [Ld.rdName, ← HZK.out]; rfl
            subst hm'
            go_wp2_with (go_at_call 196; refine (isCounted_any _ _).mono ?_; rintro e w' ⟨rfl, rfl⟩; rw [show Ld.counted 2 = false from rfl])
            refine bodyPost_ret_by (v := .tuple #[.agg #[.string ⟨nm.toArray⟩, .int .i64 2, .int .i64 0], .bool true]) ?_ rfl ⟨nm, 2, 0, by rw [HR.out]; rfl, fun n h => (by rw [HR.out] at h; cases h; exact ⟨rfl, ⟨by decide, by decide⟩, ⟨by decide, by decide⟩⟩), ?_⟩
            · simp [results, Tryz.results188, go_sem]
            · exact HBW.out _ _ _ _
          · have HR : Hid (Ld.rdName (w0 :: nm :: rest) = none) := by
              show _ = _
              have := HM.out
              match rest, this with
              | [], h => exact absurd h (by simpa using hm')
              | [y], _ => rw [Ld.rdName, ← HZK.out]; rfl
              | y :: y2 :: t, _ => rfl
            have hmb : ((m : Int) == 2) = false := by simp; omega
            go_wp2_with (go_at_call 196; refine (isCounted_any _ _).mono ?_; rintro e w' ⟨rfl, rfl⟩; rw [show Ld.counted 2 = false from rfl])
            refine bodyPost_ret_by (v := .tuple #[.agg #[.string ⟨nm.toArray⟩, .int .i64 2, .int .i64 0], .bool false]) ?_ rfl ⟨nm, 2, 0, by rw [HR.out]; rfl, fun n h => (by rw [HR.out] at h; cases h), ?_⟩
            · simp [results, Tryz.results188, go_sem]
            · exact HBW.out _ _ _ _
        · rw [show ((3 : Nat) : Int) = 3 from rfl]
          by_cases hm' : m = 3
          · obtain ⟨y, hrest⟩ : ∃ y, rest = [y] := by
              have := HM.out; rw [hm'] at this
              match rest, this with
              | [y], _ => exact ⟨y, rfl⟩
              | [], h => simp at h
              | y :: y2 :: t, h => simp at h
            subst hrest
            have c2 := H2.out y [] rfl
            have hyl := HL.out y (by simp)
            have HR : Hid (Ld.rdName [w0, nm, y] = (Ld.rdCount y).map fun n => ⟨nm, 3, n⟩) := by show _ = _; rw [Ld.rdName, ← HZK.out]; rfl
            have HBX := hide (HBW2.out (.string ⟨#[]⟩) (.int .i64 0) (.int .i64 0) (.int .i64 3) (.int .i64 0))
            have HRC := hide (readCount_any y _ hyl.1 (HN.out.low HBX.out hG) (HP.out.low HBX.out hG) (Nat.le_trans hG HBX.out.size))
            subst hm'
            go_wp2_with (go_at_call 196; refine (isCounted_any _ _).mono ?_; rintro e w' ⟨rfl, rfl⟩; rw [show Ld.counted 3 = true from rfl])
            refine HRC.out.mono ?_
            rintro e w3 ⟨cn, hcn, rfl, hcm, hb3⟩
            have HB3 := hide hb3
            have HCM := hide hcm
            have hsX : ((w.alloc (.cells #[.string ⟨#[]⟩, .int .i64 0, .int .i64 0] 201)).alloc (.cells #[.string ⟨nm.toArray⟩, .int .i64 3, .int .i64 0] 201)).heap.size = w.heap.size + 1 + 1 := by simp
            have g1 : w3.heap[w.heap.size]? = some (.cells #[.string ⟨#[]⟩, .int .i64 0, .int .i64 0] 201 (0, 0)) := by
              rw [hb3.block _ (by rw [hsX]; omega), Below.heap_alloc _ _ _ (by simp)]; exact heap_alloc_new w _
            have g2 : w3.heap[w.heap.size + 1]? = some (.cells #[.string ⟨nm.toArray⟩, .int .i64 3, .int .i64 0] 201 (0, 0)) := by
              rw [hb3.block _ (by rw [hsX]; omega)]
              have := heap_alloc_new (w.alloc (.cells #[.string ⟨#[]⟩, .int .i64 0, .int .i64 0] 201)) (.cells #[.string ⟨nm.toArray⟩, .int .i64 3, .int .i64 0] 201)
              rwa [World.size_alloc] at this
            have HB4 : Hid (Below w.heap.size w w3) := HBX.out.trans (hb3.mono HBX.out.size)
            have a0 : w3.cell? ⟨w.heap.size, 0, none⟩ = some (.string ⟨#[]⟩) := by rw [Lib.cell_of_heap g1]; rfl
            have a1 : w3.cell? ⟨w.heap.size, 1, none⟩ = some (.int .i64 0) := by rw [Lib.cell_of_heap g1]; rfl
            have a2 : w3.cell? ⟨w.heap.size, 2, none⟩ = some (.int .i64 0) := by rw [Lib.cell_of_heap g1]; rfl
            have d0 : w3.cell? ⟨w.heap.size + 1, 0, none⟩ = some (.string ⟨nm.toArray⟩) := by rw [Lib.cell_of_heap g2]; rfl
            have d1 : w3.cell? ⟨w.heap.size + 1, 1, none⟩ = some (.int .i64 3) := by rw [Lib.cell_of_heap g2]; rfl
            have d2 : w3.cell? ⟨w.heap.size + 1, 2, none⟩ = some (.int .i64 0) := by rw [Lib.cell_of_heap g2]; rfl
            have f0 : w3.frozen? ⟨w.heap.size, 0, none⟩ = false := Lib.frozen_of_heap g1 0
            have f1 : w3.frozen? ⟨w.heap.size, 1, none⟩ = false := Lib.frozen_of_heap g1 1
            have f2 : w3.frozen? ⟨w.heap.size, 2, none⟩ = false := Lib.frozen_of_heap g1 2
            have f5 : w3.frozen? ⟨w.heap.size + 1, 2, none⟩ = false := Lib.frozen_of_heap g2 2
            clear hb3 hcm HRC hsX g1 g2 HBX
            go_wp2_with fail
            refine bodyPost_ret_by (v := .tuple #[.agg #[.string ⟨nm.toArray⟩, .int .i64 3, .int .i64 cn], .bool (Ld.rdCount y).isSome]) ?_ rfl ⟨nm, 3, cn, by rw [HR.out]; simp, fun n h => ?_, ?_⟩
            · simp [results, Tryz.results188, go_sem, *]
            · rw [HR.out] at h
              cases hrc : Ld.rdCount y with
              | none => rw [hrc] at h; cases h
              | some q =>
                rw [hrc] at h
                cases h
                exact ⟨by rw [HCM.out q hrc], ⟨by decide, by decide⟩, hcn⟩
            · exact (((HB4.out.setCell (by simp) _).setCell (by simp) _).setCell (by simp) _).setCell (by simp) _
          · have HR : Hid (Ld.rdName (w0 :: nm :: rest) = none) := by
              show _ = _
              have := HM.out
              match rest, this with
              | [], _ => rw [Ld.rdName, ← HZK.out]; rfl
              | [y], h => exact absurd h (by simpa using hm')
              | y :: y2 :: t, _ => rfl
            have hmb : ((m : Int) != 3) = true := by simp; omega
            go_wp2_with (go_at_call 196; refine (isCounted_any _ _).mono ?_; rintro e w' ⟨rfl, rfl⟩; rw [show Ld.counted 3 = true from rfl])
            refine bodyPost_ret_by (v := .tuple #[.agg #[.string ⟨#[]⟩, .int .i64 0, .int .i64 0], .bool false]) ?_ rfl ⟨[], 0, 0, by rw [HR.out]; rfl, fun n h => (by rw [HR.out] at h; cases h), ?_⟩
            · simp [results, Tryz.results188, go_sem]
            · exact HBW2.out _ _ _ _ _
        · rw [show ((4 : Nat) : Int) = 4 from rfl]
          by_cases hm' : m = 3
          · obtain ⟨y, hrest⟩ : ∃ y, rest = [y] := by
              have := HM.out; rw [hm'] at this
              match rest, this with
              | [y], _ => exact ⟨y, rfl⟩
              | [], h => simp at h
              | y :: y2 :: t, h => simp at h
            subst hrest
            have c2 := H2.out y [] rfl
            have hyl := HL.out y (by simp)
            have HR : Hid (Ld.rdName [w0, nm, y] = (Ld.rdCount y).map fun n => ⟨nm, 4, n⟩) := by show _ = _; rw [Ld.rdName, ← HZK.out]; rfl
            have HBX := hide (HBW2.out (.string ⟨#[]⟩) (.int .i64 0) (.int .i64 0) (.int .i64 4) (.int .i64 0))
            have HRC := hide (readCount_any y _ hyl.1 (HN.out.low HBX.out hG) (HP.out.low HBX.out hG) (Nat.le_trans hG HBX.out.size))
            subst hm'
            go_wp2_with (go_at_call 196; refine (isCounted_any _ _).mono ?_; rintro e w' ⟨rfl, rfl⟩; rw [show Ld.counted 4 = true from rfl])
            refine HRC.out.mono ?_
            rintro e w3 ⟨cn, hcn, rfl, hcm, hb3⟩
            have HB3 := hide hb3
            have HCM := hide hcm
            have hsX : ((w.alloc (.cells #[.string ⟨#[]⟩, .int .i64 0, .int .i64 0] 201)).alloc (.cells #[.string ⟨nm.toArray⟩, .int .i64 4, .int .i64 0] 201)).heap.size = w.heap.size + 1 + 1 := by simp
            have g1 : w3.heap[w.heap.size]? = some (.cells #[.string ⟨#[]⟩, .int .i64 0, .int .i64 0] 201 (0, 0)) := by
              rw [hb3.block _ (by rw [hsX]; omega), Below.heap_alloc _ _ _ (by simp)]; exact heap_alloc_new w _
            have g2 : w3.heap[w.heap.size + 1]? = some (.cells #[.string ⟨nm.toArray⟩, .int .i64 4, .int .i64 0] 201 (0, 0)) := by
              rw [hb3.block _ (by rw [hsX]; omega)]
              have := heap_alloc_new (w.alloc (.cells #[.string ⟨#[]⟩, .int .i64 0, .int .i64 0] 201)) (.cells #[.string ⟨nm.toArray⟩, .int .i64 4, .int .i64 0] 201)
              rwa [World.size_alloc] at this
            have HB4 : Hid (Below w.heap.size w w3) := HBX.out.trans (hb3.mono HBX.out.size)
            have a0 : w3.cell? ⟨w.heap.size, 0, none⟩ = some (.string ⟨#[]⟩) := by rw [Lib.cell_of_heap g1]; rfl
            have a1 : w3.cell? ⟨w.heap.size, 1, none⟩ = some (.int .i64 0) := by rw [Lib.cell_of_heap g1]; rfl
            have a2 : w3.cell? ⟨w.heap.size, 2, none⟩ = some (.int .i64 0) := by rw [Lib.cell_of_heap g1]; rfl
            have d0 : w3.cell? ⟨w.heap.size + 1, 0, none⟩ = some (.string ⟨nm.toArray⟩) := by rw [Lib.cell_of_heap g2]; rfl
            have d1 : w3.cell? ⟨w.heap.size + 1, 1, none⟩ = some (.int .i64 4) := by rw [Lib.cell_of_heap g2]; rfl
            have d2 : w3.cell? ⟨w.heap.size + 1, 2, none⟩ = some (.int .i64 0) := by rw [Lib.cell_of_heap g2]; rfl
            have f0 : w3.frozen? ⟨w.heap.size, 0, none⟩ = false := Lib.frozen_of_heap g1 0
            have f1 : w3.frozen? ⟨w.heap.size, 1, none⟩ = false := Lib.frozen_of_heap g1 1
            have f2 : w3.frozen? ⟨w.heap.size, 2, none⟩ = false := Lib.frozen_of_heap g1 2
            have f5 : w3.frozen? ⟨w.heap.size + 1, 2, none⟩ = false := Lib.frozen_of_heap g2 2
            clear hb3 hcm HRC hsX g1 g2 HBX
            go_wp2_with fail
            refine bodyPost_ret_by (v := .tuple #[.agg #[.string ⟨nm.toArray⟩, .int .i64 4, .int .i64 cn], .bool (Ld.rdCount y).isSome]) ?_ rfl ⟨nm, 4, cn, by rw [HR.out]; simp, fun n h => ?_, ?_⟩
            · simp [results, Tryz.results188, go_sem, *]
            · rw [HR.out] at h
              cases hrc : Ld.rdCount y with
              | none => rw [hrc] at h; cases h
              | some q =>
                rw [hrc] at h
                cases h
                exact ⟨by rw [HCM.out q hrc], ⟨by decide, by decide⟩, hcn⟩
            · exact (((HB4.out.setCell (by simp) _).setCell (by simp) _).setCell (by simp) _).setCell (by simp) _
          · have HR : Hid (Ld.rdName (w0 :: nm :: rest) = none) := by
              show _ = _
              have := HM.out
              match rest, this with
              | [], _ => rw [Ld.rdName, ← HZK.out]; rfl
              | [y], h => exact absurd h (by simpa using hm')
              | y :: y2 :: t, _ => rfl
            have hmb : ((m : Int) != 3) = true := by simp; omega
            go_wp2_with (go_at_call 196; refine (isCounted_any _ _).mono ?_; rintro e w' ⟨rfl, rfl⟩; rw [show Ld.counted 4 = true from rfl])
            refine bodyPost_ret_by (v := .tuple #[.agg #[.string ⟨#[]⟩, .int .i64 0, .int .i64 0], .bool false]) ?_ rfl ⟨[], 0, 0, by rw [HR.out]; rfl, fun n h => (by rw [HR.out] at h; cases h), ?_⟩
            · simp [results, Tryz.results188, go_sem]
            · exact HBW2.out _ _ _ _ _
/-- what readHead answers -/
def HeadRead (l : List (List UInt8)) (w : World) (e : Ending) (w' : World) : Prop :=
  ∃ (k : Nat) (nm : List UInt8), e = .returned (.tuple #[.agg #[.int .i64 (k : Int), .string ⟨nm.toArray⟩, .nilIface], .bool (Ld.rdHead l).isSome]) ∧ (∀ q, Ld.rdHead l = some q → q = (k, nm) ∧ k ≤ 6) ∧ Below w.heap.size w w'
set_option maxHeartbeats 4000000 in
set_option maxRecDepth 100000 in
theorem readHead_any (sv : Value) (l : List (List UInt8)) (w : World) (hs : Strs w sv (l.map toBA)) (hl : ∀ y, y ∈ l → y.length ≤ 20000 ∧ y ≠ []) (hW : Words w) (hG : 14 ≤ w.heap.size) :
    Calls Tryz.prog 191 #[sv] w (HeadRead l w) := by
  have off : ∀ (a : Option Addr) (n c : Nat), n ≠ 1 → n ≠ 2 → Ld.rdHead l = none → Calls Tryz.prog 191 #[.slice a n c] w (HeadRead l w) := by
    intro a n c h1 h2 hr
    have HR := hide hr
    have e1 : ((n : Int) == 1) = false := by simp; omega
    have e2 : ((n : Int) == 2) = false := by simp; omega
    clear hr hs hl hW h1 h2
    go_enter Tryz.func191, Tryz.ntmps191
    go_wp2_with fail
    refine bodyPost_ret_by (v := .tuple #[.agg #[.int .i64 0, .string ⟨#[]⟩, .nilIface], .bool false]) ?_ rfl ⟨0, [], by rw [HR.out]; rfl, fun q h => (by rw [HR.out] at h; cases h), (Below.refl _ _).alloc (Nat.le_refl _) _⟩
    simp [results, Tryz.results191, go_sem]
  rcases hs.at with ⟨rfl, a, c, rfl⟩ | ⟨g, o, c, rfl, hc1, hc2, hcell⟩
  · exact off a 0 c (by omega) (by omega) rfl
  match l, off, hl, hc1, hc2, hcell with
  | [], off, _, _, _, _ => exact off _ 0 c (by omega) (by omega) rfl
  | y :: y2 :: y3 :: t, off, _, _, _, _ => exact off _ _ c (by simp) (by simp) rfl
  | [y], _, _, hc1, hc2, hcell =>
    have c0 : w.cell? ⟨g, o, none⟩ = some (.string ⟨y.toArray⟩) := hcell 0 y rfl
    have hg : g < w.heap.size := World.block_lt_of_cell? _ _ c0
    have hc1' : 1 ≤ c := hc1
    clear hcell hs hl hW off hc1 hc2
    show Calls Tryz.prog 191 #[.slice (some ⟨g, o, none⟩) 1 c] w (HeadRead [y] w)
    go_enter Tryz.func191, Tryz.ntmps191
    go_wp2_with fail
    refine bodyPost_ret_by (v := .tuple #[.agg #[.int .i64 1, .string ⟨y.toArray⟩, .nilIface], .bool true]) ?_ rfl ⟨1, y, rfl, fun q h => (by cases h; exact ⟨rfl, by decide⟩), ?_⟩
    · simp [results, Tryz.results191, go_sem]
    · exact (Below.refl _ _).alloc (Nat.le_refl _) _
  | [w0, nm], _, hl, hc1, hc2, hcell =>
    have c0 : w.cell? ⟨g, o, none⟩ = some (.string ⟨w0.toArray⟩) := hcell 0 w0 rfl
    have c1 : w.cell? ⟨g, o + 1, none⟩ = some (.string ⟨nm.toArray⟩) := hcell 1 nm rfl
    have hg : g < w.heap.size := World.block_lt_of_cell? _ _ c0
    have hc1' : 2 ≤ c := hc1
    have hw0 : w0 ≠ [] := (hl w0 (by simp)).2
    have HW0 := hide hw0
    have n0 : w.cell? ⟨6, 0, none⟩ = some (.string ⟨#[]⟩) := hW.2 0 (by decide)
    have n1 : w.cell? ⟨6, 1, none⟩ = some (.string ⟨#[]⟩) := hW.2 1 (by decide)
    have n2 : w.cell? ⟨6, 2, none⟩ = some (.string ⟨#[115, 101, 116]⟩) := hW.2 2 (by decide)
    have n3 : w.cell? ⟨6, 3, none⟩ = some (.string ⟨#[114, 101, 115, 101, 116]⟩) := hW.2 3 (by decide)
    have n4 : w.cell? ⟨6, 4, none⟩ = some (.string ⟨#[114, 117, 110]⟩) := hW.2 4 (by decide)
    have n5 : w.cell? ⟨6, 5, none⟩ = some (.string ⟨#[99, 111, 117, 110, 116]⟩) := hW.2 5 (by decide)
    have n6 : w.cell? ⟨6, 6, none⟩ = some (.string ⟨#[122, 101, 114, 111]⟩) := hW.2 6 (by decide)
    have hGn : 6 < w.heap.size := Nat.lt_of_lt_of_le (by decide : 6 < 14) hG
    have hG0 : ¬ w.heap.size = 0 := by omega
    have hG1 : ¬ w.heap.size = 1 := by omega
    have hG2 : 0 < w.heap.size := by omega
    have hG3 : 1 < w.heap.size := by omega
    have hbl := bytes_list w0
    have hbn := bytes_list nm
    clear hcell hs hl hW hc1 hc2 off hw0
    show Calls Tryz.prog 191 #[.slice (some ⟨g, o, none⟩) 2 c] w (HeadRead [w0, nm] w)
    go_enter Tryz.func191, Tryz.ntmps191
    go_wp2_with fail
    go_loopw [17] (fun i wr => ∃ k : Nat, k ≤ 7 ∧ i = .int .i64 (k : Int) ∧ Hid (∀ j, j < k → Ld.rungW j ≠ w0) ∧ wr = w.alloc (.cells #[.int .i64 0, .string ⟨#[]⟩, .nilIface] 230)) (fun i _ => 7 - (intOf i).toNat)
    case atStart => exact ⟨0, by omega, rfl, fun j hj => absurd hj (Nat.not_lt_zero j), rfl⟩
    case round =>
      obtain ⟨k, hk, rfl, HZ, rfl⟩ := hrel
      have hk8 : k = 0 ∨ k = 1 ∨ k = 2 ∨ k = 3 ∨ k = 4 ∨ k = 5 ∨ k = 6 ∨ k = 7 := by omega
      rcases hk8 with rfl | rfl | rfl | rfl | rfl | rfl | rfl | rfl
      · rw [show ((0 : Nat) : Int) = 0 from rfl]
        by_cases he : [] = w0
        · exact absurd he.symm HW0.out
        · have HS : Hid (∀ j, j < 1 → Ld.rungW j ≠ w0) := fun j hj => by
            by_cases e : j = 0
            · subst e; exact he
            · exact HZ.out j (by omega)
          have heb : ([] == w0) = false := by simpa using he
          clear he
          go_wp2_with fail
          go_roundw
          case rel => exact ⟨1, by omega, rfl, HS.out, trivial⟩
          case measure => simp [intOf]
      · rw [show ((1 : Nat) : Int) = 1 from rfl]
        by_cases he : [] = w0
        · exact absurd he.symm HW0.out
        · have HS : Hid (∀ j, j < 2 → Ld.rungW j ≠ w0) := fun j hj => by
            by_cases e : j = 1
            · subst e; exact he
            · exact HZ.out j (by omega)
          have heb : ([] == w0) = false := by simpa using he
          clear he
          go_wp2_with fail
          go_roundw
          case rel => exact ⟨2, by omega, rfl, HS.out, trivial⟩
          case measure => simp [intOf]
      · rw [show ((2 : Nat) : Int) = 2 from rfl]
        by_cases he : [115, 101, 116] = w0
        · have HR : Hid (Ld.rdHead [w0, nm] = some (2, nm)) := by
            show _ = _
            subst he
            rfl
          have heb : ([115, 101, 116] == w0) = true := by simpa using he
          clear he HZ
          go_wp2_with fail
          refine bodyPost_ret_by (v := .tuple #[.agg #[.int .i64 2, .string ⟨nm.toArray⟩, .nilIface], .bool true]) ?_ rfl ⟨2, nm, by rw [HR.out]; rfl, fun q h => (by rw [HR.out] at h; cases h; exact ⟨rfl, by decide⟩), ?_⟩
          · simp [results, Tryz.results191, go_sem]
          · exact (Below.refl _ _).alloc (Nat.le_refl _) _
        · have HS : Hid (∀ j, j < 3 → Ld.rungW j ≠ w0) := fun j hj => by
            by_cases e : j = 2
            · subst e; exact he
            · exact HZ.out j (by omega)
          have heb : ([115, 101, 116] == w0) = false := by simpa using he
          clear he
          go_wp2_with fail
          go_roundw
          case rel => exact ⟨3, by omega, rfl, HS.out, trivial⟩
          case measure => simp [intOf]
      · rw [show ((3 : Nat) : Int) = 3 from rfl]
        by_cases he : [114, 101, 115, 101, 116] = w0
        · have HR : Hid (Ld.rdHead [w0, nm] = some (3, nm)) := by
            show _ = _
            subst he
            rfl
          have heb : ([114, 101, 115, 101, 116] == w0) = true := by simpa using he
          clear he HZ
          go_wp2_with fail
          refine bodyPost_ret_by (v := .tuple #[.agg #[.int .i64 3, .string ⟨nm.toArray⟩, .nilIface], .bool true]) ?_ rfl ⟨3, nm, by rw [HR.out]; rfl, fun q h => (by rw [HR.out] at h; cases h; exact ⟨rfl, by decide⟩), ?_⟩
          · simp [results, Tryz.results191, go_sem]
          · exact (Below.refl _ _).alloc (Nat.le_refl _) _
        · have HS : Hid (∀ j, j < 4 → Ld.rungW j ≠ w0) := fun j hj => by
            by_cases e : j = 3
            · subst e; exact he
            · exact HZ.out j (by omega)
          have heb : ([114, 101, 115, 101, 116] == w0) = false := by simpa using he
          clear he
          go_wp2_with fail
          go_roundw
          case rel => exact ⟨4, by omega, rfl, HS.out, trivial⟩
          case measure => simp [intOf]
      · rw [show ((4 : Nat) : Int) = 4 from rfl]
        by_cases he : [114, 117, 110] = w0
        · have HR : Hid (Ld.rdHead [w0, nm] = some (4, nm)) := by
            show _ = _
            subst he
            rfl
          have heb : ([114, 117, 110] == w0) = true := by simpa using he
          clear he HZ
          go_wp2_with fail
          refine bodyPost_ret_by (v := .tuple #[.agg #[.int .i64 4, .string ⟨nm.toArray⟩, .nilIface], .bool true]) ?_ rfl ⟨4, nm, by rw [HR.out]; rfl, fun q h => (by rw [HR.out] at h; cases h; exact ⟨rfl, by decide⟩), ?_⟩
          · simp [results, Tryz.results191, go_sem]
          · exact (Below.refl _ _).alloc (Nat.le_refl _) _
        · have HS : Hid (∀ j, j < 5 → Ld.rungW j ≠ w0) := fun j hj => by
            by_cases e : j = 4
            · subst e; exact he
            · exact HZ.out j (by omega)
          have heb : ([114, 117, 110] == w0) = false := by simpa using he
          clear he
          go_wp2_with fail
          go_roundw
          case rel => exact ⟨5, by omega, rfl, HS.out, trivial⟩
          case measure => simp [intOf]
      · rw [show ((5 : Nat) : Int) = 5 from rfl]
        by_cases he : [99, 111, 117, 110, 116] = w0
        · have HR : Hid (Ld.rdHead [w0, nm] = some (5, nm)) := by
            show _ = _
            subst he
            rfl
          have heb : ([99, 111, 117, 110, 116] == w0) = true := by simpa using he
          clear he HZ
          go_wp2_with fail
          refine bodyPost_ret_by (v := .tuple #[.agg #[.int .i64 5, .string ⟨nm.toArray⟩, .nilIface], .bool true]) ?_ rfl ⟨5, nm, by rw [HR.out]; rfl, fun q h => (by rw [HR.out] at h; cases h; exact ⟨rfl, by decide⟩), ?_⟩
          · simp [results, Tryz.results191, go_sem]
          · exact (Below.refl _ _).alloc (Nat.le_refl _) _
        · have HS : Hid (∀ j, j < 6 → Ld.rungW j ≠ w0) := fun j hj => by
            by_cases e : j = 5
            · subst e; exact he
            · exact HZ.out j (by omega)
          have heb : ([99, 111, 117, 110, 116] == w0) = false := by simpa using he
          clear he
          go_wp2_with fail
          go_roundw
          case rel => exact ⟨6, by omega, rfl, HS.out, trivial⟩
          case measure => simp [intOf]
      · rw [show ((6 : Nat) : Int) = 6 from rfl]
        by_cases he : [122, 101, 114, 111] = w0
        · have HR : Hid (Ld.rdHead [w0, nm] = some (6, nm)) := by
            show _ = _
            subst he
            rfl
          have heb : ([122, 101, 114, 111] == w0) = true := by simpa using he
          clear he HZ
          go_wp2_with fail
          refine bodyPost_ret_by (v := .tuple #[.agg #[.int .i64 6, .string ⟨nm.toArray⟩, .nilIface], .bool true]) ?_ rfl ⟨6, nm, by rw [HR.out]; rfl, fun q h => (by rw [HR.out] at h; cases h; exact ⟨rfl, by decide⟩), ?_⟩
          · simp [results, Tryz.results191, go_sem]
          · exact (Below.refl _ _).alloc (Nat.le_refl _) _
        · have HS : Hid (∀ j, j < 7 → Ld.rungW j ≠ w0) := fun j hj => by
            by_cases e : j = 6
            · subst e; exact he
            · exact HZ.out j (by omega)
          have heb : ([122, 101, 114, 111] == w0) = false := by simpa using he
          clear he
          go_wp2_with fail
          go_roundw
          case rel => exact ⟨7, by omega, rfl, HS.out, trivial⟩
          case measure => simp [intOf]
      · have HR : Hid (Ld.rdHead [w0, nm] = none) := by
          show _ = _
          have q : ∀ j, j < 7 → ¬ w0 = Ld.rungW j := fun j hj e => HZ.out j hj e.symm
          have : Ld.kindG w0 = 0 := by
            unfold Ld.kindG
            rw [if_neg (q 2 (by omega)), if_neg (q 3 (by omega)), if_neg (q 4 (by omega)), if_neg (q 5 (by omega)), if_neg (q 6 (by omega))]
          rw [Ld.rdHead, if_pos this]
        rw [show ((7 : Nat) : Int) = 7 from rfl]
        go_wp2_with fail
        refine bodyPost_ret_by (v := .tuple #[.agg #[.int .i64 0, .string ⟨#[]⟩, .nilIface], .bool false]) ?_ rfl ⟨0, [], by rw [HR.out]; rfl, fun q h => (by rw [HR.out] at h; cases h), ?_⟩
        · simp [results, Tryz.results191, go_sem]
        · exact (Below.refl _ _).alloc (Nat.le_refl _) _
end Go.Proofs.YtgldbliohpfljaaGreatDoor
