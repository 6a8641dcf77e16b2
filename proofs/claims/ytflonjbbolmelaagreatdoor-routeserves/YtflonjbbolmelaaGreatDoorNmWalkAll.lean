/-
  Plain mathematics of chapter 3: programs on their way. Nothing of the program is named here. The walks of chapter 1's names: package expr's isLetter, isDigit, isKept, Name.
-/
import Derived.Test.YtflonjbbolmelaaGreatDoorLdMathAll
import Derived.Test.YtflonjbbolmelaaGreatDoorRows
import Derived.Test.YtflonjbbolmelaaGreatDoorNmMath
import Derived.WalkKit
import Derived.WalkSpells
import Derived.WalkLawsBesides
namespace Go.Proofs.YtflonjbbolmelaaGreatDoor
section
namespace Sc
structure St where
  is : List Bool
  ct : List Int
def further (a most : Int) : Int := if a < most then a + 1 else most
def run (n : Nat) (most : Int) (says : Bool) (s : St) : St :=
  let c := if says then further (s.ct.getD n 0) most else 0
  ⟨s.is.set n (c == most), s.ct.set n c⟩
def count (n : Nat) (most : Int) (says : Bool) (s : St) : St :=
  let c := if says then further (s.ct.getD n 0) most else s.ct.getD n 0
  ⟨s.is.set n (c == most), s.ct.set n c⟩
def zero (n : Nat) (says : Bool) (s : St) : St := if says then ⟨s.is.set n false, s.ct.set n 0⟩ else s
/-- a rung of kind k does this to name n, whose count is most -/
def rung (k : Int) (n : Nat) (most : Int) (says : Bool) (s : St) : St :=
  if k = 1 then ⟨s.is.set n says, s.ct⟩
  else if k = 2 then ⟨s.is.set n (s.is.getD n false || says), s.ct⟩
  else if k = 3 then ⟨s.is.set n (s.is.getD n false && !says), s.ct⟩
  else if k = 4 then run n most says s
  else if k = 5 then count n most says s
  else if k = 6 then zero n says s
  else s
theorem rung_len (k : Int) (n : Nat) (most : Int) (says : Bool) (s : St) : (rung k n most says s).is.length = s.is.length ∧ (rung k n most says s).ct.length = s.ct.length := by
  unfold rung run count zero
  repeat' split
  all_goals simp
/-- what names are, told -/
def told (ns : List Ld.Nme) (l : List Bool) (s : List UInt8) : Bool := decide (0 ≤ Ld.number ns s) && l.getD (Ld.number ns s).toNat false
def doRung (ns : List Ld.Nme) (was : List Bool) (s : St) (r : Ld.Rng) : St :=
  match r.cond with
  | some x => if 0 ≤ Ld.number ns r.name then rung r.kind (Ld.number ns r.name).toNat ((ns.getD (Ld.number ns r.name).toNat ⟨[], 0, 0⟩).count) (x.eval (told ns s.is) (told ns was)) s else s
  | none => s
/-- inputs are read -/
def reads (l : List Nat) (inp : List Bool) (is : List Bool) : List Bool := (l.zip inp).foldl (fun acc p => acc.set p.1 p.2) is
def step (p : Ld.Prg) (s : St) (inp : List Bool) : St := p.rungs.foldl (doRung p.names s.is) ⟨reads (Ld.kindL p.names 1) inp s.is, s.ct⟩
def start (p : Ld.Prg) : St := ⟨List.replicate p.names.length false, List.replicate p.names.length 0⟩
end Sc
end
section
open Go.RowKit

theorem ret_bool {a b : Bool} (h : a = b) : Ending.returned (.bool a) = .returned (.bool b) := by rw [h]
theorem hide {p : Prop} (h : p) : Hid p := h
theorem unhide {p : Prop} (h : Hid p) : p := h
theorem getD_byte (s : ByteArray) (k : Nat) (h : k < s.size) : s.data.toList.getD k 0 = s[k] := by
  simp [List.getD_eq_getElem?_getD, h]; rfl
theorem sign_byte (s : ByteArray) (k : Nat) (h : k < s.size) : Nm.sign s.data.toList k = (s[k].toNat : Int) := by
  unfold Nm.sign; rw [getD_byte s k h]
theorem isLetter_any (c : Int) (w : World) :
    Calls Tryz.prog 72 #[.int .u8 c] w fun e w' => e = .returned (.bool (Nm.lo c)) ∧ w' = w := by
  by_cases h1 : 97 ≤ c <;> by_cases h2 : c ≤ 122
  all_goals
    go_enter Tryz.func72, Tryz.ntmps72
    go_wp2
    go_ret
    exact ⟨by simp [Nm.lo]; omega, rfl⟩
theorem isDigit_any (c : Int) (w : World) :
    Calls Tryz.prog 73 #[.int .u8 c] w fun e w' => e = .returned (.bool (Nm.di c)) ∧ w' = w := by
  by_cases h1 : 48 ≤ c <;> by_cases h2 : c ≤ 57
  all_goals
    go_enter Tryz.func73, Tryz.ntmps73
    go_wp2
    go_ret
    exact ⟨by simp [Nm.di]; omega, rfl⟩
theorem isKept_any (s : ByteArray) (w : World) :
    Calls Tryz.prog 74 #[.string s] w fun e w' => e = .returned (.bool (Nm.kept s.data.toList)) ∧ w' = w := by
  rw [← ByteArray.toList_eq]
  go_enter Tryz.func74, Tryz.ntmps74
  go_wp2
  all_goals
    go_ret
    exact ⟨by simp_all [Nm.kept], rfl⟩
set_option maxHeartbeats 400000 in
theorem Name_any (s : ByteArray) (w : World) (hs : s.size ≤ maxLen) :
    Calls Tryz.prog 57 #[.string s] w fun e w' => e = .returned (.bool (Nm.name s.data.toList)) ∧ w' = w := by
  unfold maxLen at hs
  have hlen : s.data.toList.length = s.size := by simp
  by_cases h0 : s.size = 0
  · have hfin : Nm.name s.data.toList = false := Nm.no_empty _ (by omega)
    rw [hfin]
    have h0' : ((s.size : Int) == 0) = true := by simp [h0]
    clear hlen
    go_enter Tryz.func57, Tryz.ntmps57
    go_wp2_with fail
    go_ret
    exact ⟨rfl, rfl⟩
  have h0' : ((s.size : Int) == 0) = false := beq_eq_false_iff_ne.2 (by omega)
  by_cases h8 : 8 < s.size
  · have hfin : Nm.name s.data.toList = false := Nm.no_long _ (by omega)
    rw [hfin]
    have h8' : (8 : Int) < (s.size : Int) := by omega
    clear hlen
    go_enter Tryz.func57, Tryz.ntmps57
    go_wp2_with fail
    go_ret
    exact ⟨rfl, rfl⟩
  have h8' : ¬ (8 : Int) < (s.size : Int) := by omega
  have hpos : 0 < s.size := by omega
  cases hl : Nm.lo (s[0].toNat : Int) with
  | false =>
    have hfin : Nm.name s.data.toList = false := Nm.no_first _ (by rw [sign_byte s 0 hpos]; exact hl)
    rw [hfin]
    clear hlen
    go_enter Tryz.func57, Tryz.ntmps57
    go_wp2_with (go_at_call 72; refine (isLetter_any _ _).mono ?_; rintro e w' ⟨rfl, rfl⟩)
    go_ret
    exact ⟨rfl, rfl⟩
  | true =>
    have HL : Hid (s.data.toList.length = s.size) := hlen
    clear hlen
    go_enter Tryz.func57, Tryz.ntmps57
    go_wp2_with (go_at_call 72; refine (isLetter_any _ _).mono ?_; rintro e w' ⟨rfl, rfl⟩)
    go_loop [20] (fun i => ∃ k : Nat, k ≤ s.size ∧ i = .int .i64 k ∧ Nm.upto s.data.toList k = true) (fun i => s.size - (intOf i).toNat)
    case atStart => exact ⟨0, Nat.zero_le _, rfl, Nm.upto_zero _⟩
    case round =>
      obtain ⟨k, hk, rfl, hu⟩ := hrel
      have HU : Hid (Nm.upto s.data.toList k = true) := hu
      clear hu
      by_cases hlt : k < s.size
      · have HS : Hid (Nm.sign s.data.toList k = (s[k].toNat : Int)) := sign_byte s k hlt
        cases hn : Nm.nm (s[k].toNat : Int) with
        | false =>
          have HF : Hid (Nm.name s.data.toList = false) := Nm.no_sign _ k (by rw [HL.out]; exact hlt) (by rw [HS.out]; exact hn)
          have h3 : Nm.lo (s[k].toNat : Int) = false := by cases h : Nm.lo (s[k].toNat : Int) with | true => simp [Nm.nm, h] at hn | false => rfl
          have h4 : Nm.di (s[k].toNat : Int) = false := by cases h : Nm.di (s[k].toNat : Int) with | true => simp [Nm.nm, h] at hn | false => rfl
          have h5 : ((s[k].toNat : Int) != 95) = true := by rw [bne_iff_ne]; intro h; simp [Nm.nm, h] at hn
          clear hn
          go_wp2_with (first | (go_at_call 72; refine (isLetter_any _ _).mono ?_; rintro e w' ⟨rfl, rfl⟩) | (go_at_call 73; refine (isDigit_any _ _).mono ?_; rintro e w' ⟨rfl, rfl⟩))
          go_ret
          exact ⟨ret_bool HF.out.symm, rfl⟩
        | true =>
          have HN : Hid (Nm.upto s.data.toList (k + 1) = true) := by show _ = true; rw [Nm.upto_succ _ k (by rw [HL.out]; exact hlt), HU.out, HS.out, hn]; rfl
          cases h3 : Nm.lo (s[k].toNat : Int) with
          | true =>
            clear hn
            go_wp2_with (first | (go_at_call 72; refine (isLetter_any _ _).mono ?_; rintro e w' ⟨rfl, rfl⟩) | (go_at_call 73; refine (isDigit_any _ _).mono ?_; rintro e w' ⟨rfl, rfl⟩))
            go_round
            case rel => exact ⟨k + 1, by omega, by go_num, HN.out⟩
            case measure => simp [intOf]; omega
          | false =>
            cases h4 : Nm.di (s[k].toNat : Int) with
            | true =>
              clear hn
              go_wp2_with (first | (go_at_call 72; refine (isLetter_any _ _).mono ?_; rintro e w' ⟨rfl, rfl⟩) | (go_at_call 73; refine (isDigit_any _ _).mono ?_; rintro e w' ⟨rfl, rfl⟩))
              go_round
              case rel => exact ⟨k + 1, by omega, by go_num, HN.out⟩
              case measure => simp [intOf]; omega
            | false =>
              have h5 : ((s[k].toNat : Int) != 95) = false := by simpa [Nm.nm, h3, h4] using hn
              clear hn
              go_wp2_with (first | (go_at_call 72; refine (isLetter_any _ _).mono ?_; rintro e w' ⟨rfl, rfl⟩) | (go_at_call 73; refine (isDigit_any _ _).mono ?_; rintro e w' ⟨rfl, rfl⟩))
              go_round
              case rel => exact ⟨k + 1, by omega, by go_num, HN.out⟩
              case measure => simp [intOf]; omega
      · have hk' : k = s.size := by omega
        have HF : Hid (Nm.name s.data.toList = !(Nm.kept s.data.toList)) := by
          show _ = _
          have e1 : s.data.toList.isEmpty = false := by rw [List.isEmpty_eq_false_iff]; intro h; have := HL.out; rw [h] at this; simp at this; omega
          have e2 : decide (s.data.toList.length ≤ 8) = true := by rw [HL.out]; simp; omega
          have e3 : Nm.lo (Nm.sign s.data.toList 0) = true := by rw [sign_byte s 0 hpos]; exact hl
          have e4 : Nm.upto s.data.toList s.data.toList.length = true := by rw [HL.out, ← hk']; exact HU.out
          unfold Nm.name; rw [e1, e2, e3, e4]; rfl
        clear hk'
        go_wp2_with (go_at_call 74; refine (isKept_any _ _).mono ?_; rintro e w' ⟨rfl, rfl⟩)
        go_ret
        exact ⟨ret_bool HF.out.symm, rfl⟩
end
end Go.Proofs.YtflonjbbolmelaaGreatDoor
