/-
  The walks of chapter 1's names: package expr's isLetter, isDigit, isKept, Name. Plain mathematics of chapter 1: reading goes forward, and stays within the text. Nothing of the program is named here.
-/
import Derived.Test.YtefpelmdelkpmaaGreatDoorRows
import Derived.Test.YtefpelmdelkpmaaGreatDoorNmMath
import Derived.WalkKit
import Derived.WalkSpells
import Derived.WalkLawsBesides
import Derived.Test.YtefpelmdelkpmaaGreatDoorLdMathAll
namespace Go.Proofs.YtefpelmdelkpmaaGreatDoor
section
open Go.RowKit

theorem ret_bool {a b : Bool} (h : a = b) : Ending.returned (.bool a) = .returned (.bool b) := by rw [h]
theorem hide {p : Prop} (h : p) : Hid p := h
theorem unhide {p : Prop} (h : Hid p) : p := h
theorem getD_byte (s : ByteArray) (k : Nat) (h : k < s.size) : s.data.toList.getD k 0 = s[k] := by
  simp [List.getD_eq_getElem?_getD, h]; rfl
theorem sign_byte (s : ByteArray) (k : Nat) (h : k < s.size) : Nm.sign s.data.toList k = (s[k].toNat : Int) := by
  unfold Nm.sign; rw [getD_byte s k h]
theorem isLetter_any (c : Int) (w : World) :
    Calls Tryz.prog 90 #[.int .u8 c] w fun e w' => e = .returned (.bool (Nm.lo c)) ∧ w' = w := by
  by_cases h1 : 97 ≤ c <;> by_cases h2 : c ≤ 122
  all_goals
    go_enter Tryz.func90, Tryz.ntmps90
    go_wp2
    go_ret
    exact ⟨by simp [Nm.lo]; omega, rfl⟩
theorem isDigit_any (c : Int) (w : World) :
    Calls Tryz.prog 91 #[.int .u8 c] w fun e w' => e = .returned (.bool (Nm.di c)) ∧ w' = w := by
  by_cases h1 : 48 ≤ c <;> by_cases h2 : c ≤ 57
  all_goals
    go_enter Tryz.func91, Tryz.ntmps91
    go_wp2
    go_ret
    exact ⟨by simp [Nm.di]; omega, rfl⟩
theorem isKept_any (s : ByteArray) (w : World) :
    Calls Tryz.prog 92 #[.string s] w fun e w' => e = .returned (.bool (Nm.kept s.data.toList)) ∧ w' = w := by
  rw [← ByteArray.toList_eq]
  go_enter Tryz.func92, Tryz.ntmps92
  go_wp2
  all_goals
    go_ret
    exact ⟨by simp_all [Nm.kept], rfl⟩
set_option maxHeartbeats 400000 in
theorem Name_any (s : ByteArray) (w : World) (hs : s.size ≤ maxLen) :
    Calls Tryz.prog 58 #[.string s] w fun e w' => e = .returned (.bool (Nm.name s.data.toList)) ∧ w' = w := by
  unfold maxLen at hs
  have hlen : s.data.toList.length = s.size := by simp
  by_cases h0 : s.size = 0
  · have hfin : Nm.name s.data.toList = false := Nm.no_empty _ (by omega)
    rw [hfin]
    have h0' : ((s.size : Int) == 0) = true := by simp [h0]
    clear hlen
    go_enter Tryz.func58, Tryz.ntmps58
    go_wp2_with fail
    go_ret
    exact ⟨rfl, rfl⟩
  have h0' : ((s.size : Int) == 0) = false := beq_eq_false_iff_ne.2 (by omega)
  by_cases h8 : 8 < s.size
  · have hfin : Nm.name s.data.toList = false := Nm.no_long _ (by omega)
    rw [hfin]
    have h8' : (8 : Int) < (s.size : Int) := by omega
    clear hlen
    go_enter Tryz.func58, Tryz.ntmps58
    go_wp2_with fail
    go_ret
    exact ⟨rfl, rfl⟩
  have h8' : ¬ (8 : Int) < (s.size : Int) := by omega
  have hpos : 0 < s.size := by omega
  cases hl : Nm.lo (s[0].toNat : Int) with
  | false =>
    have hfin : Nm.name s.data.toList = false := Nm.no_first _ (by rw [sign_byte s 0 hpos]; exact hl)
    rw [hfin]
    clear hlen
    go_enter Tryz.func58, Tryz.ntmps58
    go_wp2_with (go_at_call 90; refine (isLetter_any _ _).mono ?_; rintro e w' ⟨rfl, rfl⟩)
    go_ret
    exact ⟨rfl, rfl⟩
  | true =>
    have HL : Hid (s.data.toList.length = s.size) := hlen
    clear hlen
    go_enter Tryz.func58, Tryz.ntmps58
    go_wp2_with (go_at_call 90; refine (isLetter_any _ _).mono ?_; rintro e w' ⟨rfl, rfl⟩)
    go_loop [20] (fun i => ∃ k : Nat, k ≤ s.size ∧ i = .int .i64 k ∧ Nm.upto s.data.toList k = true) (fun i => s.size - (intOf i).toNat)
    case atStart => exact ⟨0, Nat.zero_le _, rfl, Nm.upto_zero _⟩
    case round =>
      obtain ⟨k, hk, rfl, hu⟩ := hrel
      have HU : Hid (Nm.upto s.data.toList k = true) := hu
      clear hu
      by_cases hlt : k < s.size
      · have HS : Hid (Nm.sign s.data.toList k = (s[k].toNat : Int)) := sign_byte s k hlt
        cases hn : Nm.nm (s[k].toNat : Int) with
        | false =>
          have HF : Hid (Nm.name s.data.toList = false) := Nm.no_sign _ k (by rw [HL.out]; exact hlt) (by rw [HS.out]; exact hn)
          have h3 : Nm.lo (s[k].toNat : Int) = false := by cases h : Nm.lo (s[k].toNat : Int) with | true => simp [Nm.nm, h] at hn | false => rfl
          have h4 : Nm.di (s[k].toNat : Int) = false := by cases h : Nm.di (s[k].toNat : Int) with | true => simp [Nm.nm, h] at hn | false => rfl
          have h5 : ((s[k].toNat : Int) != 95) = true := by rw [bne_iff_ne]; intro h; simp [Nm.nm, h] at hn
          clear hn
          go_wp2_with (first | (go_at_call 90; refine (isLetter_any _ _).mono ?_; rintro e w' ⟨rfl, rfl⟩) | (go_at_call 91; refine (isDigit_any _ _).mono ?_; rintro e w' ⟨rfl, rfl⟩))
          go_ret
          exact ⟨ret_bool HF.out.symm, rfl⟩
        | true =>
          have HN : Hid (Nm.upto s.data.toList (k + 1) = true) := by show _ = true; rw [Nm.upto_succ _ k (by rw [HL.out]; exact hlt), HU.out, HS.out, hn]; rfl
          cases h3 : Nm.lo (s[k].toNat : Int) with
          | true =>
            clear hn
            go_wp2_with (first | (go_at_call 90; refine (isLetter_any _ _).mono ?_; rintro e w' ⟨rfl, rfl⟩) | (go_at_call 91; refine (isDigit_any _ _).mono ?_; rintro e w' ⟨rfl, rfl⟩))
            go_round
            case rel => exact ⟨k + 1, by omega, by go_num, HN.out⟩
            case measure => simp [intOf]; omega
          | false =>
            cases h4 : Nm.di (s[k].toNat : Int) with
            | true =>
              clear hn
              go_wp2_with (first | (go_at_call 90; refine (isLetter_any _ _).mono ?_; rintro e w' ⟨rfl, rfl⟩) | (go_at_call 91; refine (isDigit_any _ _).mono ?_; rintro e w' ⟨rfl, rfl⟩))
              go_round
              case rel => exact ⟨k + 1, by omega, by go_num, HN.out⟩
              case measure => simp [intOf]; omega
            | false =>
              have h5 : ((s[k].toNat : Int) != 95) = false := by simpa [Nm.nm, h3, h4] using hn
              clear hn
              go_wp2_with (first | (go_at_call 90; refine (isLetter_any _ _).mono ?_; rintro e w' ⟨rfl, rfl⟩) | (go_at_call 91; refine (isDigit_any _ _).mono ?_; rintro e w' ⟨rfl, rfl⟩))
              go_round
              case rel => exact ⟨k + 1, by omega, by go_num, HN.out⟩
              case measure => simp [intOf]; omega
      · have hk' : k = s.size := by omega
        have HF : Hid (Nm.name s.data.toList = !(Nm.kept s.data.toList)) := by
          show _ = _
          have e1 : s.data.toList.isEmpty = false := by rw [List.isEmpty_eq_false_iff]; intro h; have := HL.out; rw [h] at this; simp at this; omega
          have e2 : decide (s.data.toList.length ≤ 8) = true := by rw [HL.out]; simp; omega
          have e3 : Nm.lo (Nm.sign s.data.toList 0) = true := by rw [sign_byte s 0 hpos]; exact hl
          have e4 : Nm.upto s.data.toList s.data.toList.length = true := by rw [HL.out, ← hk']; exact HU.out
          unfold Nm.name; rw [e1, e2, e3, e4]; rfl
        clear hk'
        go_wp2_with (go_at_call 92; refine (isKept_any _ _).mono ?_; rintro e w' ⟨rfl, rfl⟩)
        go_ret
        exact ⟨ret_bool HF.out.symm, rfl⟩
end
section
namespace Ex
/-- what is read ends behind where it began, within the text -/
def Adv (l : List UInt8) (r : Nat → Res Ex) : Prop := ∀ i x m, i ≤ l.length → r i = .inr (x, m) → i < m ∧ m ≤ l.length
theorem sg_lt (l : List UInt8) (i : Nat) (h : sg l i ≠ 32) : i < l.length := by
  unfold sg at h
  by_cases hi : i < l.length
  · exact hi
  · rw [if_neg hi] at h; exact absurd rfl h
theorem ends32 : ends 32 = true := by decide
theorem nameP_adv (l : List UInt8) (k : Nat) : Adv l (nameP l k) := by
  intro i x m hi h
  have h1 := skip_ge l i
  have h2 := skip_le l i hi
  unfold nameP at h
  simp only at h
  by_cases c1 : sg l (skip l i) = 48 ∨ sg l (skip l i) = 49 ∨ ends (sg l (skip l i)) = true
  · rw [if_pos c1] at h; cases h
  · rw [if_neg c1] at h
    by_cases c2 : Nm.name (cut l (skip l i) (wend l (skip l i))) = true
    · rw [if_pos c2] at h
      simp only [Sum.inr.injEq, Prod.mk.injEq] at h
      have hne : sg l (skip l i) ≠ 32 := fun e => c1 (.inr (.inr (by rw [e]; exact ends32)))
      have hlt := sg_lt l _ hne
      have hf : ends (l.getD (skip l i) 0).toNat = false := by
        have : ends (sg l (skip l i)) = false := by
          cases hb : ends (sg l (skip l i)) with
          | true => exact absurd (.inr (.inr hb)) c1
          | false => rfl
        simpa [sg, hlt] using this
      have h3 := wend_on l (skip l i) hlt hf
      have h4 := wend_ge l (skip l i + 1)
      have h5 := wend_le l (skip l i) (by omega)
      omega
    · rw [if_neg c2] at h; cases h
theorem listP_adv (l : List UInt8) (sep : Nat) (hs : sep ≠ 32) (r : Nat → Res Ex) (hr : Adv l r) :
    ∀ f i xs m, i ≤ l.length → listP l sep r f i = .inr (xs, m) → i < m ∧ m ≤ l.length ∧ xs ≠ [] := by
  intro f
  induction f with
  | zero => intro i xs m _ h; simp [listP] at h
  | succ f ih =>
    intro i xs m hi h
    unfold listP at h
    cases hri : r i with
    | inl e => rw [hri] at h; simp at h
    | inr p =>
      obtain ⟨x, j⟩ := p
      have ha := hr i x j hi hri
      have h1 := skip_ge l j
      have h2 := skip_le l j ha.2
      rw [hri] at h
      simp only at h
      by_cases c : sg l (skip l j) = sep
      · rw [if_pos c] at h
        have hlt := sg_lt l (skip l j) (by rw [c]; exact hs)
        cases hl : listP l sep r f (skip l j + 1) with
        | inl e => rw [hl] at h; simp at h
        | inr q =>
          obtain ⟨ys, k⟩ := q
          rw [hl] at h
          simp only [Sum.inr.injEq, Prod.mk.injEq] at h
          have := ih (skip l j + 1) ys k (by omega) hl
          refine ⟨by omega, by omega, ?_⟩
          rw [← h.1]; simp
      · rw [if_neg c] at h
        simp only [Sum.inr.injEq, Prod.mk.injEq] at h
        refine ⟨by omega, by omega, ?_⟩
        rw [← h.1]; simp
theorem made_inr (k : Nat) (r : Res (List Ex)) (x : Ex) (m : Nat) (h : made k r = .inr (x, m)) : ∃ xs, r = .inr (xs, m) := by
  match r, h with
  | .inr ([], _), h => simp only [made, Sum.inr.injEq, Prod.mk.injEq] at h; exact ⟨_, by rw [h.2]⟩
  | .inr ([y], _), h => simp only [made, Sum.inr.injEq, Prod.mk.injEq] at h; exact ⟨_, by rw [h.2]⟩
  | .inr (_ :: _ :: _, _), h => simp only [made, Sum.inr.injEq, Prod.mk.injEq] at h; exact ⟨_, by rw [h.2]⟩
theorem partP_adv (l : List UInt8) (r : Nat → Res Ex) (hr : Adv l r) : Adv l (partP l r) := by
  intro i x m hi h
  obtain ⟨xs, hx⟩ := made_inr _ _ _ _ h
  have := listP_adv l 38 (by decide) r hr _ i xs m hi hx
  omega
theorem wholeP_adv (l : List UInt8) (r : Nat → Res Ex) (hr : Adv l r) : Adv l (wholeP l r) := by
  intro i x m hi h
  obtain ⟨xs, hx⟩ := made_inr _ _ _ _ h
  have := listP_adv l 124 (by decide) _ (partP_adv l r hr) _ i xs m hi hx
  omega
theorem pieceP_adv (l : List UInt8) : ∀ d, Adv l (pieceP l d) := by
  intro d
  induction d with
  | zero => intro i x m _ h; simp [pieceP] at h
  | succ d ih =>
    intro i x m hi h
    have h1 := skip_ge l i
    have h2 := skip_le l i hi
    have low : sg l (skip l i) ≠ 32 → skip l i + 1 ≤ l.length := fun h => by have := sg_lt l _ h; omega
    unfold pieceP at h
    simp only at h
    by_cases c1 : sg l (skip l i) = 33
    · rw [if_pos c1] at h
      cases hp : pieceP l d (skip l i + 1) with
      | inl e => rw [hp] at h; simp [notP] at h
      | inr q =>
        obtain ⟨y, k⟩ := q
        rw [hp] at h
        simp only [notP, Sum.inr.injEq, Prod.mk.injEq] at h
        have := ih (skip l i + 1) y k (low (by omega)) hp
        omega
    rw [if_neg c1] at h
    by_cases c2 : sg l (skip l i) = 40
    · rw [if_pos c2] at h
      cases hp : wholeP l (pieceP l d) (skip l i + 1) with
      | inl e => rw [hp] at h; simp [parP] at h
      | inr q =>
        obtain ⟨y, k⟩ := q
        rw [hp] at h
        have ha := wholeP_adv l _ ih (skip l i + 1) y k (low (by omega)) hp
        have h3 := skip_ge l k
        unfold parP at h
        simp only at h
        by_cases c : sg l (skip l k) = 41
        · rw [if_pos c] at h
          simp only [Sum.inr.injEq, Prod.mk.injEq] at h
          have := sg_lt l (skip l k) (by omega)
          omega
        · rw [if_neg c] at h; simp at h
    rw [if_neg c2] at h
    by_cases c3 : sg l (skip l i) = 48
    · rw [if_pos c3] at h
      simp only [Sum.inr.injEq, Prod.mk.injEq] at h
      have := low (by omega)
      omega
    rw [if_neg c3] at h
    by_cases c4 : sg l (skip l i) = 49
    · rw [if_pos c4] at h
      simp only [Sum.inr.injEq, Prod.mk.injEq] at h
      have := low (by omega)
      omega
    rw [if_neg c4] at h
    by_cases c5 : sg l (skip l i) = 94
    · rw [if_pos c5] at h
      have := nameP_adv l 3 _ x m (low (by omega)) h
      omega
    rw [if_neg c5] at h
    by_cases c6 : sg l (skip l i) = 126
    · rw [if_pos c6] at h
      have := nameP_adv l 4 _ x m (low (by omega)) h
      omega
    rw [if_neg c6] at h
    have := nameP_adv l 2 _ x m h2 h
    omega
end Ex
end
end Go.Proofs.YtefpelmdelkpmaaGreatDoor
