/-
  Plain mathematics of chapter 11: a table's program, and that its own check finds nothing. The walks of chapter 1's names: package expr's isLetter, isDigit, isKept, Name. What the walks of package expr's reader go by: the reader's cells in memory; that all else is as it was. (Out of RdBase: no function is named.)
-/
import Derived.Test.YtgdmohombcgjbaaGreatDoorRoFineAll
import Derived.Test.YtgdmohombcgjbaaGreatDoorScBoundAll
import Derived.Test.YtgdmohombcgjbaaGreatDoorRows
import Derived.Test.YtgdmohombcgjbaaGreatDoorNmMath
import Derived.WalkKit
import Derived.WalkSpells
import Derived.WalkLawsBesides
import Derived.Test.YtgdmohombcgjbaaGreatDoorRtBoundAll
import Derived.Deep.QuietTactic
import Derived.BigQuiet
import Derived.Deep.LoopGhost
import Derived.Lib.Bytealg
namespace Go.Proofs.YtgdmohombcgjbaaGreatDoor
section
namespace Ro
open Ld (Nme Rng Prg number)
/-- a letter and a number -/
def pnm (c : UInt8) (i : Nat) : List UInt8 := [c, UInt8.ofNat (48 + i)]
def bitE (c : UInt8) (i : Nat) : Ex := ⟨2, pnm c i, []⟩
def notE (c : UInt8) (i : Nat) : Ex := ⟨5, [], [bitE c i]⟩
def allE : List Ex → Ex
  | [x] => x
  | l => ⟨6, [], l⟩
def someE : List Ex → Ex
  | [x] => x
  | l => ⟨7, [], l⟩
def freeE (r : Rt) : List Ex := r.secs.map fun s => notE 98 s.toNat
def letE (t : Tbl) (i : Nat) : Rng := ⟨3, pnm 108 i, some (allE (notE 97 i :: freeE (rt t i)))⟩
def lockE (t : Tbl) (i : Nat) : Rng := ⟨2, pnm 108 i, some (allE ((bitE 97 i :: freeE (rt t i)) ++ (clashing t i).map (notE 108)))⟩
def layE (t : Tbl) (p : Nat) (b : Bool) : List Rng := if wanting t ((p : Int), b) = [] then [] else [⟨if b then 2 else 3, pnm 112 p, some (someE ((wanting t ((p : Int), b)).map (bitE 108)))⟩]
def laysE (t : Tbl) (k : Nat) : List Rng := (List.range k).flatMap fun p => layE t p true ++ layE t p false
def namesE (R S P : Nat) : List Nme := (((List.range R).map fun i => ⟨pnm 97 i, 1, 0⟩) ++ ((List.range S).map fun i => ⟨pnm 98 i, 1, 0⟩) ++ ((List.range R).map fun i => ⟨pnm 108 i, 2, 0⟩)) ++ ((List.range P).map fun i => ⟨pnm 112 i, 2, 0⟩)
def ladderE (t : Tbl) (S P : Nat) : Prg := ⟨namesE t.rts.length S P, ((List.range t.rts.length).map (letE t) ++ (List.range t.rts.length).map (lockE t)) ++ laysE t P⟩
theorem namesE_len (R S P : Nat) : (namesE R S P).length = R + S + R + P := by unfold namesE; simp; omega
theorem num_a : ∀ R, R < 4 → ∀ S, S < 4 → ∀ P, P < 3 → ∀ i, i < R → number (namesE R S P) (pnm 97 i) = (i : Int) := by decide +kernel
theorem num_b : ∀ R, R < 4 → ∀ S, S < 4 → ∀ P, P < 3 → ∀ i, i < S → number (namesE R S P) (pnm 98 i) = ((R + i : Nat) : Int) := by decide +kernel
theorem num_l : ∀ R, R < 4 → ∀ S, S < 4 → ∀ P, P < 3 → ∀ i, i < R → number (namesE R S P) (pnm 108 i) = ((R + S + i : Nat) : Int) := by decide +kernel
theorem num_p : ∀ R, R < 4 → ∀ S, S < 4 → ∀ P, P < 3 → ∀ i, i < P → number (namesE R S P) (pnm 112 i) = ((R + S + R + i : Nat) : Int) := by decide +kernel
theorem kind_in : ∀ R, R < 4 → ∀ S, S < 4 → ∀ P, P < 3 → Ld.kindL (namesE R S P) 1 = List.range (R + S) := by decide +kernel
theorem kind_out : ∀ R, R < 4 → ∀ S, S < 4 → ∀ P, P < 3 → ∀ i, i < R + P → Ld.kindAt (namesE R S P) ((R + S + i : Nat) : Int) = 2 := by decide +kernel
theorem names_ok : ∀ R, R < 4 → ∀ S, S < 4 → ∀ P, P < 3 → Ld.bad (Ld.nameAt (namesE R S P)) (namesE R S P).length = none := by decide +kernel
theorem bitE_named (c : UInt8) (i : Nat) : (bitE c i).named true = [pnm c i] := by unfold bitE; rw [Ex.named2]; rfl
theorem notE_named (c : UInt8) (i : Nat) : (notE c i).named true = [pnm c i] := by
  unfold notE
  rw [Ex.named_of _ _ _ _ (by decide)]
  simp [bitE_named]
theorem allE_named (l : List Ex) (s : List UInt8) (h : s ∈ (allE l).named true) : ∃ x, x ∈ l ∧ s ∈ x.named true := by
  unfold allE at h
  split at h
  · exact ⟨_, by simp, h⟩
  · rw [Ex.named_of _ _ _ _ (by decide)] at h
    obtain ⟨y, hy, hs⟩ := List.mem_flatten.1 h
    obtain ⟨x, hx, rfl⟩ := List.mem_map.1 hy
    exact ⟨x, hx, hs⟩
theorem someE_named (l : List Ex) (s : List UInt8) (h : s ∈ (someE l).named true) : ∃ x, x ∈ l ∧ s ∈ x.named true := by
  unfold someE at h
  split at h
  · exact ⟨_, by simp, h⟩
  · rw [Ex.named_of _ _ _ _ (by decide)] at h
    obtain ⟨y, hy, hs⟩ := List.mem_flatten.1 h
    obtain ⟨x, hx, rfl⟩ := List.mem_map.1 hy
    exact ⟨x, hx, hs⟩
theorem wrong_none (ns : List Nme) (kind : Int) (hk : kind = 2 ∨ kind = 3) (name : List UInt8) (n : Nat) (hn : number ns name = (n : Int)) (h2 : Ld.kindAt ns (n : Int) = 2) (x : Ex) (hx : ∀ s, s ∈ x.named true → 0 ≤ number ns s) : Ld.wrongR ns ⟨kind, name, some x⟩ = 0 := by
  unfold Ld.wrongR
  have hko : Ld.kindOf kind = 2 := by unfold Ld.kindOf; rw [if_neg (by omega), if_neg (by omega)]
  have hkn : Ld.known ns x = true := List.all_eq_true.2 fun s hs => decide_eq_true (hx s hs)
  simp only
  rw [if_neg (by omega), hn, if_neg (by omega), h2, hko, hkn]
  simp
theorem clashing_lt (t : Tbl) (i j : Nat) (h : j ∈ clashing t i) : j < t.rts.length ∧ j ≠ i := by
  unfold clashing clashTo at h
  obtain ⟨h1, h2⟩ := List.mem_filter.1 h
  simp at h2
  exact ⟨List.mem_range.1 h1, h2.1⟩
theorem wanting_lt (t : Tbl) (q : Int × Bool) (j : Nat) (h : j ∈ wanting t q) : j < t.rts.length := by
  unfold wanting wantTo at h
  exact List.mem_range.1 (List.mem_filter.1 h).1
theorem rt_in (t : Tbl) (i : Nat) (h : i < t.rts.length) : rt t i ∈ t.rts := List.mem_of_getElem? (rt_at t i h)
theorem free_named {t : Tbl} {S P : Nat} (f : Fits t S P) (i : Nat) (hi : i < t.rts.length) (x : Ex) (hx : x ∈ freeE (rt t i)) (s : List UInt8) (hs : s ∈ x.named true) : 0 ≤ number (namesE t.rts.length S P) s := by
  have hS := f.S3
  have hP := f.P2
  have hR := f.R3
  obtain ⟨n, hn, rfl⟩ := List.mem_map.1 hx
  rw [notE_named] at hs
  obtain rfl := List.mem_singleton.1 hs
  have := f.secs _ (rt_in t i hi) n hn
  rw [num_b _ (by omega) _ (by omega) _ (by omega) n.toNat (by omega)]
  omega
theorem mem_lays {t : Tbl} {k : Nat} {r : Rng} (h : r ∈ laysE t k) : ∃ p b, p < k ∧ r = ⟨if b then 2 else 3, pnm 112 p, some (someE ((wanting t ((p : Int), b)).map (bitE 108)))⟩ := by
  obtain ⟨p, hp, hr⟩ := List.mem_flatMap.1 h
  have hp' := List.mem_range.1 hp
  rcases List.mem_append.1 hr with hr | hr
  · unfold layE at hr
    split at hr
    · cases hr
    · exact ⟨p, true, hp', List.mem_singleton.1 hr⟩
  · unfold layE at hr
    split at hr
    · cases hr
    · exact ⟨p, false, hp', List.mem_singleton.1 hr⟩
theorem rung_ok {t : Tbl} {S P : Nat} (f : Fits t S P) (r : Rng) (hr : r ∈ (ladderE t S P).rungs) : Ld.wrongR (namesE t.rts.length S P) r = 0 := by
  have hS := f.S3
  have hP := f.P2
  have hR := f.R3
  have na : ∀ i, i < t.rts.length → 0 ≤ number (namesE t.rts.length S P) (pnm 97 i) := fun i hi => by rw [num_a _ (by omega) _ (by omega) _ (by omega) i hi]; omega
  have nl : ∀ i, i < t.rts.length → 0 ≤ number (namesE t.rts.length S P) (pnm 108 i) := fun i hi => by rw [num_l _ (by omega) _ (by omega) _ (by omega) i hi]; omega
  rcases List.mem_append.1 hr with hr | hr
  · rcases List.mem_append.1 hr with hr | hr
    · obtain ⟨i, hi, rfl⟩ := List.mem_map.1 hr
      have hi := List.mem_range.1 hi
      refine wrong_none _ _ (.inr rfl) _ _ (num_l _ (by omega) _ (by omega) _ (by omega) i hi) (kind_out _ (by omega) _ (by omega) _ (by omega) i (by omega)) _ fun s hs => ?_
      obtain ⟨x, hx, hs⟩ := allE_named _ _ hs
      rcases List.mem_cons.1 hx with rfl | hx
      · rw [notE_named] at hs
        obtain rfl := List.mem_singleton.1 hs
        exact na i hi
      · exact free_named f i hi x hx s hs
    · obtain ⟨i, hi, rfl⟩ := List.mem_map.1 hr
      have hi := List.mem_range.1 hi
      refine wrong_none _ _ (.inl rfl) _ _ (num_l _ (by omega) _ (by omega) _ (by omega) i hi) (kind_out _ (by omega) _ (by omega) _ (by omega) i (by omega)) _ fun s hs => ?_
      obtain ⟨x, hx, hs⟩ := allE_named _ _ hs
      rcases List.mem_append.1 hx with hx | hx
      · rcases List.mem_cons.1 hx with rfl | hx
        · rw [bitE_named] at hs
          obtain rfl := List.mem_singleton.1 hs
          exact na i hi
        · exact free_named f i hi x hx s hs
      · obtain ⟨j, hj, rfl⟩ := List.mem_map.1 hx
        rw [notE_named] at hs
        obtain rfl := List.mem_singleton.1 hs
        exact nl j (clashing_lt t i j hj).1
  · obtain ⟨p, b, hp, rfl⟩ := mem_lays hr
    refine wrong_none _ _ (by cases b <;> simp) _ _ (num_p _ (by omega) _ (by omega) _ (by omega) p hp) (by
      have := kind_out t.rts.length (by omega) S (by omega) P (by omega) (t.rts.length + p) (by omega)
      rw [← Nat.add_assoc] at this
      exact this) _ fun s hs => ?_
    obtain ⟨x, hx, hs⟩ := someE_named _ _ hs
    obtain ⟨j, hj, rfl⟩ := List.mem_map.1 hx
    rw [bitE_named] at hs
    obtain rfl := List.mem_singleton.1 hs
    exact nl j (wanting_lt t _ j hj)
theorem bad_all (f : Nat → Nat) : ∀ n, (∀ i, i < n → f i = 0) → Ld.bad f n = none
  | 0, _ => rfl
  | n + 1, h => Ld.bad_on f n (bad_all f n fun i hi => h i (by omega)) (h n (by omega))
theorem layE_len (t : Tbl) (p : Nat) (b : Bool) : (layE t p b).length ≤ 1 := by unfold layE; split <;> simp
theorem laysE_len (t : Tbl) : ∀ k, (laysE t k).length ≤ 2 * k
  | 0 => by simp [laysE]
  | k + 1 => by
    have ih := laysE_len t k
    have e : laysE t (k + 1) = laysE t k ++ (layE t k true ++ layE t k false) := by unfold laysE; rw [List.range_succ, List.flatMap_append]; simp
    have h1 := layE_len t k true
    have h2 := layE_len t k false
    rw [e, List.length_append, List.length_append]
    omega
/-- a table's program is one that may be -/
theorem ladder_ok {t : Tbl} {S P : Nat} (f : Fits t S P) : Ld.check (ladderE t S P) = none := by
  have hS := f.S3
  have hP := f.P2
  have hR := f.R3
  have hl := laysE_len t P
  unfold Ld.check
  have h1 : (ladderE t S P).names.length = t.rts.length + S + t.rts.length + P := namesE_len _ _ _
  have h2 : (ladderE t S P).rungs.length ≤ 10 := by
    unfold ladderE
    simp only [List.length_append, List.length_map, List.length_range]
    omega
  rw [if_neg (by omega)]
  have h3 : Ld.bad (Ld.nameAt (ladderE t S P).names) (ladderE t S P).names.length = none := names_ok _ (by omega) _ (by omega) _ (by omega)
  have h4 : Ld.bad (Ld.rungAt (ladderE t S P)) (ladderE t S P).rungs.length = none := bad_all _ _ fun i hi => by
    rw [Ld.rungAt_at _ _ hi]
    exact rung_ok f _ (List.getElem_mem hi)
  rw [h3]
  simp only
  rw [h4]
end Ro
end
section
open Go.RowKit

theorem ret_bool {a b : Bool} (h : a = b) : Ending.returned (.bool a) = .returned (.bool b) := by rw [h]
theorem hide {p : Prop} (h : p) : Hid p := h
theorem unhide {p : Prop} (h : Hid p) : p := h
theorem getD_byte (s : ByteArray) (k : Nat) (h : k < s.size) : s.data.toList.getD k 0 = s[k] := by
  simp [List.getD_eq_getElem?_getD, h]; rfl
theorem sign_byte (s : ByteArray) (k : Nat) (h : k < s.size) : Nm.sign s.data.toList k = (s[k].toNat : Int) := by
  unfold Nm.sign; rw [getD_byte s k h]
theorem isLetter_any (c : Int) (w : World) :
    Calls Tryz.prog 96 #[.int .u8 c] w fun e w' => e = .returned (.bool (Nm.lo c)) ∧ w' = w := by
  by_cases h1 : 97 ≤ c <;> by_cases h2 : c ≤ 122
  all_goals
    go_enter Tryz.func96, Tryz.ntmps96
    go_wp2
    go_ret
    exact ⟨by simp [Nm.lo]; omega, rfl⟩
theorem isDigit_any (c : Int) (w : World) :
    Calls Tryz.prog 97 #[.int .u8 c] w fun e w' => e = .returned (.bool (Nm.di c)) ∧ w' = w := by
  by_cases h1 : 48 ≤ c <;> by_cases h2 : c ≤ 57
  all_goals
    go_enter Tryz.func97, Tryz.ntmps97
    go_wp2
    go_ret
    exact ⟨by simp [Nm.di]; omega, rfl⟩
theorem isKept_any (s : ByteArray) (w : World) :
    Calls Tryz.prog 98 #[.string s] w fun e w' => e = .returned (.bool (Nm.kept s.data.toList)) ∧ w' = w := by
  rw [← ByteArray.toList_eq]
  go_enter Tryz.func98, Tryz.ntmps98
  go_wp2
  all_goals
    go_ret
    exact ⟨by simp_all [Nm.kept], rfl⟩
set_option maxHeartbeats 400000 in
theorem Name_any (s : ByteArray) (w : World) (hs : s.size ≤ maxLen) :
    Calls Tryz.prog 75 #[.string s] w fun e w' => e = .returned (.bool (Nm.name s.data.toList)) ∧ w' = w := by
  unfold maxLen at hs
  have hlen : s.data.toList.length = s.size := by simp
  by_cases h0 : s.size = 0
  · have hfin : Nm.name s.data.toList = false := Nm.no_empty _ (by omega)
    rw [hfin]
    have h0' : ((s.size : Int) == 0) = true := by simp [h0]
    clear hlen
    go_enter Tryz.func75, Tryz.ntmps75
    go_wp2_with fail
    go_ret
    exact ⟨rfl, rfl⟩
  have h0' : ((s.size : Int) == 0) = false := beq_eq_false_iff_ne.2 (by omega)
  by_cases h8 : 8 < s.size
  · have hfin : Nm.name s.data.toList = false := Nm.no_long _ (by omega)
    rw [hfin]
    have h8' : (8 : Int) < (s.size : Int) := by omega
    clear hlen
    go_enter Tryz.func75, Tryz.ntmps75
    go_wp2_with fail
    go_ret
    exact ⟨rfl, rfl⟩
  have h8' : ¬ (8 : Int) < (s.size : Int) := by omega
  have hpos : 0 < s.size := by omega
  cases hl : Nm.lo (s[0].toNat : Int) with
  | false =>
    have hfin : Nm.name s.data.toList = false := Nm.no_first _ (by rw [sign_byte s 0 hpos]; exact hl)
    rw [hfin]
    clear hlen
    go_enter Tryz.func75, Tryz.ntmps75
    go_wp2_with (go_at_call 96; refine (isLetter_any _ _).mono ?_; rintro e w' ⟨rfl, rfl⟩)
    go_ret
    exact ⟨rfl, rfl⟩
  | true =>
    have HL : Hid (s.data.toList.length = s.size) := hlen
    clear hlen
    go_enter Tryz.func75, Tryz.ntmps75
    go_wp2_with (go_at_call 96; refine (isLetter_any _ _).mono ?_; rintro e w' ⟨rfl, rfl⟩)
    go_loop [20] (fun i => ∃ k : Nat, k ≤ s.size ∧ i = .int .i64 k ∧ Nm.upto s.data.toList k = true) (fun i => s.size - (intOf i).toNat)
    case atStart => exact ⟨0, Nat.zero_le _, rfl, Nm.upto_zero _⟩
    case round =>
      obtain ⟨k, hk, rfl, hu⟩ := hrel
      have HU : Hid (Nm.upto s.data.toList k = true) := hu
      clear hu
      by_cases hlt : k < s.size
      · have HS : Hid (Nm.sign s.data.toList k = (s[k].toNat : Int)) := sign_byte s k hlt
        cases hn : Nm.nm (s[k].toNat : Int) with
        | false =>
          have HF : Hid (Nm.name s.data.toList = false) := Nm.no_sign _ k (by rw [HL.out]; exact hlt) (by rw [HS.out]; exact hn)
          have h3 : Nm.lo (s[k].toNat : Int) = false := by cases h : Nm.lo (s[k].toNat : Int) with | true => simp [Nm.nm, h] at hn | false => rfl
          have h4 : Nm.di (s[k].toNat : Int) = false := by cases h : Nm.di (s[k].toNat : Int) with | true => simp [Nm.nm, h] at hn | false => rfl
          have h5 : ((s[k].toNat : Int) != 95) = true := by rw [bne_iff_ne]; intro h; simp [Nm.nm, h] at hn
          clear hn
          go_wp2_with (first | (go_at_call 96; refine (isLetter_any _ _).mono ?_; rintro e w' ⟨rfl, rfl⟩) | (go_at_call 97; refine (isDigit_any _ _).mono ?_; rintro e w' ⟨rfl, rfl⟩))
          go_ret
          exact ⟨ret_bool HF.out.symm, rfl⟩
        | true =>
          have HN : Hid (Nm.upto s.data.toList (k + 1) = true) := by show _ = true; rw [Nm.upto_succ _ k (by rw [HL.out]; exact hlt), HU.out, HS.out, hn]; rfl
          cases h3 : Nm.lo (s[k].toNat : Int) with
          | true =>
            clear hn
            go_wp2_with (first | (go_at_call 96; refine (isLetter_any _ _).mono ?_; rintro e w' ⟨rfl, rfl⟩) | (go_at_call 97; refine (isDigit_any _ _).mono ?_; rintro e w' ⟨rfl, rfl⟩))
            go_round
            case rel => exact ⟨k + 1, by omega, by go_num, HN.out⟩
            case measure => simp [intOf]; omega
          | false =>
            cases h4 : Nm.di (s[k].toNat : Int) with
            | true =>
              clear hn
              go_wp2_with (first | (go_at_call 96; refine (isLetter_any _ _).mono ?_; rintro e w' ⟨rfl, rfl⟩) | (go_at_call 97; refine (isDigit_any _ _).mono ?_; rintro e w' ⟨rfl, rfl⟩))
              go_round
              case rel => exact ⟨k + 1, by omega, by go_num, HN.out⟩
              case measure => simp [intOf]; omega
            | false =>
              have h5 : ((s[k].toNat : Int) != 95) = false := by simpa [Nm.nm, h3, h4] using hn
              clear hn
              go_wp2_with (first | (go_at_call 96; refine (isLetter_any _ _).mono ?_; rintro e w' ⟨rfl, rfl⟩) | (go_at_call 97; refine (isDigit_any _ _).mono ?_; rintro e w' ⟨rfl, rfl⟩))
              go_round
              case rel => exact ⟨k + 1, by omega, by go_num, HN.out⟩
              case measure => simp [intOf]; omega
      · have hk' : k = s.size := by omega
        have HF : Hid (Nm.name s.data.toList = !(Nm.kept s.data.toList)) := by
          show _ = _
          have e1 : s.data.toList.isEmpty = false := by rw [List.isEmpty_eq_false_iff]; intro h; have := HL.out; rw [h] at this; simp at this; omega
          have e2 : decide (s.data.toList.length ≤ 8) = true := by rw [HL.out]; simp; omega
          have e3 : Nm.lo (Nm.sign s.data.toList 0) = true := by rw [sign_byte s 0 hpos]; exact hl
          have e4 : Nm.upto s.data.toList s.data.toList.length = true := by rw [HL.out, ← hk']; exact HU.out
          unfold Nm.name; rw [e1, e2, e3, e4]; rfl
        clear hk'
        go_wp2_with (go_at_call 98; refine (isKept_any _ _).mono ?_; rintro e w' ⟨rfl, rfl⟩)
        go_ret
        exact ⟨ret_bool HF.out.symm, rfl⟩
end
section
open Go.RowKit

/-- Memory is as it was, but for block b and what is new. -/
structure Keep (b : Nat) (w w' : World) : Prop where
  os : w'.os = w.os
  tape : w'.tape = w.tape
  output : w'.output = w.output
  size : w.heap.size ≤ w'.heap.size
  block : ∀ k, k < w.heap.size → k ≠ b → w'.heap[k]? = w.heap[k]?
namespace Keep
theorem refl (b : Nat) (w : World) : Keep b w w := ⟨rfl, rfl, rfl, Nat.le_refl _, fun _ _ _ => rfl⟩
theorem trans {b : Nat} {x y z : World} (h : Keep b x y) (k : Keep b y z) : Keep b x z :=
  ⟨k.os.trans h.os, k.tape.trans h.tape, k.output.trans h.output, Nat.le_trans h.size k.size, fun i hi hb => (k.block i (Nat.lt_of_lt_of_le hi h.size) hb).trans (h.block i hi hb)⟩
theorem drew {b : Nat} {a w : World} (h : Keep b a w) : Keep b a w.drew := ⟨h.os, h.tape, h.output, h.size, h.block⟩
theorem drewN {b : Nat} {a w : World} (n : Nat) (h : Keep b a w) : Keep b a (w.drewN n) := ⟨h.os, h.tape, h.output, h.size, h.block⟩
theorem alloc {b : Nat} {a w : World} (h : Keep b a w) (o : Obj) : Keep b a (w.alloc o) :=
  h.trans ⟨rfl, rfl, rfl, by simp, fun k hk _ => Below.heap_alloc w o k hk⟩
theorem setCell {b : Nat} {a w : World} (h : Keep b a w) {p : Addr} (hp : p.block = b) (u : Value) : Keep b a (w.setCell p u) :=
  h.trans ⟨by simp [World.setCell], by simp [World.setCell], by simp [World.setCell], by simp [World.setCell], fun k _ hb => Below.heap_setCell w p u k (by rw [hp]; exact hb)⟩
theorem setNew {b : Nat} {a w : World} (h : Keep b a w) {p : Addr} (hp : a.heap.size ≤ p.block) (u : Value) : Keep b a (w.setCell p u) :=
  ⟨by simpa [World.setCell] using h.os, by simpa [World.setCell] using h.tape, by simpa [World.setCell] using h.output, by simpa [World.setCell] using h.size, fun k hk hb => (Below.heap_setCell w p u k (by omega)).trans (h.block k hk hb)⟩
theorem of_below {b : Nat} {w w' : World} (h : Below w.heap.size w w') : Keep b w w' := ⟨h.os, h.tape, h.output, h.size, fun k hk _ => h.block k hk⟩
theorem cell {b : Nat} {w w' : World} (h : Keep b w w') {p : Addr} (hp : p.block < w.heap.size) (hb : p.block ≠ b) : w'.cell? p = w.cell? p := World.cell?_of_block (w := w) (h.block p.block hp hb)
theorem frozen {b : Nat} {w w' : World} (h : Keep b w w') {p : Addr} (hp : p.block < w.heap.size) (hb : p.block ≠ b) : w'.frozen? p = w.frozen? p := World.frozen?_of_block (w := w) (h.block p.block hp hb)
theorem below {b B : Nat} {w w' : World} (h : Keep b w w') (hB : B ≤ w.heap.size) (hb : B ≤ b) : Below B w w' := ⟨h.os, h.tape, h.output, h.size, fun k hk => h.block k (by omega) (by omega)⟩
end Keep

/-- The reader lies in block b: its text, where it is, how deep. -/
structure Rd (b : Nat) (s : ByteArray) (i d : Nat) (w : World) : Prop where
  c0 : w.cell? ⟨b, 0, none⟩ = some (.string s)
  c1 : w.cell? ⟨b, 1, none⟩ = some (.int .i64 (i : Int))
  c2 : w.cell? ⟨b, 2, none⟩ = some (.int .i64 (d : Int))
  f1 : w.frozen? ⟨b, 1, none⟩ = false
  f2 : w.frozen? ⟨b, 2, none⟩ = false
namespace Rd
theorem lt {b : Nat} {s : ByteArray} {i d : Nat} {w : World} (h : Rd b s i d w) : b < w.heap.size := World.block_lt_of_cell? _ _ h.c0
theorem drew {b : Nat} {s : ByteArray} {i d : Nat} {w : World} (h : Rd b s i d w) : Rd b s i d w.drew := ⟨h.c0, h.c1, h.c2, h.f1, h.f2⟩
theorem drewN {b : Nat} {s : ByteArray} {i d : Nat} {w : World} (n : Nat) (h : Rd b s i d w) : Rd b s i d (w.drewN n) := ⟨h.c0, h.c1, h.c2, h.f1, h.f2⟩
theorem below {b : Nat} {s : ByteArray} {i d : Nat} {w w' : World} (h : Rd b s i d w) (hb : Below w.heap.size w w') : Rd b s i d w' :=
  ⟨(hb.cell h.lt).trans h.c0, (hb.cell h.lt).trans h.c1, (hb.cell h.lt).trans h.c2, (hb.frozen h.lt).trans h.f1, (hb.frozen h.lt).trans h.f2⟩
theorem set1 {b : Nat} {s : ByteArray} {i d : Nat} {w : World} (h : Rd b s i d w) (j : Nat) : Rd b s j d (w.setCell ⟨b, 1, none⟩ (.int .i64 (j : Int))) :=
  ⟨(World.cell?_setCell_other w _ _ _ (by simp)).trans h.c0, World.cell?_setCell_same w _ _ h.c1, (World.cell?_setCell_other w _ _ _ (by simp)).trans h.c2, by simp [h.f1], by simp [h.f2]⟩
theorem set2 {b : Nat} {s : ByteArray} {i d : Nat} {w : World} (h : Rd b s i d w) (j : Nat) : Rd b s i j (w.setCell ⟨b, 2, none⟩ (.int .i64 (j : Int))) :=
  ⟨(World.cell?_setCell_other w _ _ _ (by simp)).trans h.c0, (World.cell?_setCell_other w _ _ _ (by simp)).trans h.c1, World.cell?_setCell_same w _ _ h.c2, by simp [h.f1], by simp [h.f2]⟩
end Rd
theorem ret_u8 {a b : Int} (h : a = b) : Ending.returned (.int .u8 a) = .returned (.int .u8 b) := by rw [h]
theorem sg_at (s : ByteArray) (i : Nat) (h : i < s.size) : Ex.sg s.data.toList i = s[i].toNat := by
  unfold Ex.sg
  have e : s.data.toList.length = s.size := by simp
  rw [if_pos (by rw [e]; exact h), getD_byte s i h]
theorem sg_end (s : ByteArray) (i : Nat) (h : ¬ i < s.size) : Ex.sg s.data.toList i = 32 := by
  unfold Ex.sg
  have e : s.data.toList.length = s.size := by simp
  rw [if_neg (by rw [e]; exact h)]
theorem blank_at (s : ByteArray) (i : Nat) (h : i < s.size) (hb : ((s[i].toNat : Int) == 32) = true) : s.data.toList.getD i 0 = 32 := by
  rw [getD_byte s i h, ← UInt8.toNat_inj]
  have := beq_iff_eq.1 hb
  show s[i].toNat = 32
  omega
theorem not_blank_at (s : ByteArray) (i : Nat) (h : i < s.size) (hb : ((s[i].toNat : Int) == 32) = false) : s.data.toList.getD i 0 ≠ 32 := by
  rw [getD_byte s i h]
  intro e
  have h2 := beq_eq_false_iff_ne.1 hb
  apply h2
  rw [e]; rfl
end
end Go.Proofs.YtgdmohombcgjbaaGreatDoor
