/-
  The walks of package lasso's wrongPart, count and Right.
-/
import Derived.Test.YtmdblokmplbpmaaDoorLsBase
import Derived.Test.YtmdblokmplbpmaaDoorNmWalk
namespace Go.Proofs.YtmdblokmplbpmaaDoor
namespace Ls
open Go.RowKit
theorem bytes_list (l : List UInt8) : (⟨l.toArray⟩ : ByteArray).data.toList = l := by simp
theorem name_at (nm : List UInt8) (w : World) (h : nm.length ≤ maxLen) : Calls Tryd.prog 37 #[.string ⟨nm.toArray⟩] w fun e w' => e = .returned (.bool (Nm.name nm)) ∧ w' = w := by
  have := Name_any ⟨nm.toArray⟩ w (by simpa [ByteArray.size] using h)
  rw [bytes_list] at this
  exact this
theorem ptrNil (b : Nat) (w : World) : (binOp BinOp.eql 40 (.pointer (some ⟨b, 0, none⟩)) (.pointer none)).run Tryd.prog w = .ok (.bool false) w := by kernel_rfl
theorem ptrNil2 (w : World) : (binOp BinOp.eql 40 (.pointer none) (.pointer none)).run Tryd.prog w = .ok (.bool true) w := by kernel_rfl
set_option maxHeartbeats 4000000 in
set_option maxRecDepth 100000 in
theorem wrongPart_any (x : Fm) (a : Nat) (ha : a ≤ 20) (v : Value) (w : World) (h : IsF (fun _ => True) w x v) (hp : PT w) :
    Calls Tryd.prog 50 #[v, .int .i64 (a : Int)] w fun e w' => e = .returned (.int .i64 (wrongN x.nil x.kind x.name x.of.length a : Int)) ∧ Below w.heap.size w w' := by
  obtain ⟨z, k, nm, l⟩ := x
  have q1 := ptrNil
  have q2 := ptrNil2
  show Calls _ _ _ _ fun e w' => e = .returned (.int .i64 (wrongN z k nm l.length a : Int)) ∧ Below w.heap.size w w'
  have HBN : Hid (∀ n, Below w.heap.size w (w.drewN n)) := fun n => ⟨rfl, rfl, rfl, Nat.le_refl _, fun _ _ => rfl⟩
  have HP := hide hp
  clear hp
  cases z with
  | true =>
    obtain rfl := isF_nil.1 h
    have HW : Hid (wrongN true k nm l.length a = 7) := by show _ = _; unfold wrongN; rw [if_pos rfl]
    clear h
    go_enter Tryd.func50, Tryd.ntmps50
    go_wp2_with fail
    go_ret
    exact ⟨by rw [HW.out]; rfl, Below.refl _ _⟩
  | false =>
    obtain ⟨h1, h2, h3, b, sa, sc, _, rfl, c0, c1, c2, _⟩ := isF_node.1 h
    clear h
    have HN := hide (name_at nm w h2)
    unfold maxLen at h3
    obtain ⟨m, hm⟩ : ∃ m, m = l.length := ⟨_, rfl⟩
    rw [← hm] at c2 h3 ⊢
    clear hm
    by_cases h19 : 19 < a
    · have HW : Hid (wrongN false k nm m a = 4) := by show _ = _; unfold wrongN; rw [if_neg (by decide), if_pos h19]
      have h19i : (19 : Int) < (a : Int) := by omega
      go_enter Tryd.func50, Tryd.ntmps50
      go_wp2_with fail
      go_ret
      exact ⟨by rw [HW.out]; rfl, Below.refl _ _⟩
    have h19i : ¬ (19 : Int) < (a : Int) := by omega
    by_cases hk1 : k < 1
    · have HW : Hid (wrongN false k nm m a = 1) := by show _ = _; unfold wrongN; rw [if_neg (by decide), if_neg h19, if_pos (.inl hk1)]
      have d1 : Decidable.decide (k < 1) = true := by simpa using hk1
      clear hk1 h1 h3
      go_enter Tryd.func50, Tryd.ntmps50
      go_wp2_with fail
      go_quiet (fail)
      go_wp2_with fail
      go_ret
      exact ⟨by rw [HW.out]; rfl, HBN.out _⟩
    by_cases hk2 : 10 < k
    · have HW : Hid (wrongN false k nm m a = 1) := by show _ = _; unfold wrongN; rw [if_neg (by decide), if_neg h19, if_pos (.inr (.inl hk2))]
      have d1 : Decidable.decide (k < 1) = false := by simpa using hk1
      have d2 : Decidable.decide (10 < k) = true := by simpa using hk2
      clear hk1 hk2 h1 h3
      go_enter Tryd.func50, Tryd.ntmps50
      go_wp2_with fail
      go_quiet (fail)
      go_wp2_with fail
      go_ret
      exact ⟨by rw [HW.out]; rfl, HBN.out _⟩
    obtain ⟨j, rfl⟩ : ∃ j : Nat, k = (j : Int) := ⟨k.toNat, by omega⟩
    have cp := HP.out j (by omega)
    have hj0 : ¬ (j : Int) < 1 := hk1
    have hj11 : (j : Int) < 11 := by omega
    have d1 : Decidable.decide ((j : Int) < 1) = false := by simpa using hj0
    have d2 : Decidable.decide ((10 : Int) < (j : Int)) = false := by simp; omega
    obtain ⟨d, hd⟩ : ∃ d, d = partsOf (j : Int) := ⟨_, rfl⟩
    have HD := hide hd
    rw [← hd] at cp
    have hpos : (1 : Nat) ≤ j := by omega
    clear hd hk1 hk2 h1 hj0
    by_cases hm : m = d
    · have hmn : ((m : Int) != (d : Int)) = false := by simp; omega
      have HNL : Hid (¬ ((j : Int) < 1 ∨ 10 < (j : Int) ∨ m ≠ partsOf (j : Int))) := by
        rintro (h | h | h)
        · omega
        · omega
        · exact h (hm.trans HD.out)
      by_cases h1k : j = 1
      · subst h1k
        have HW : Hid (wrongN false ((1 : Nat) : Int) nm m a = if Nm.name nm = false then 5 else 0) := by
          show _ = _; unfold wrongN; rw [if_neg (by decide), if_neg h19, if_neg HNL.out, if_neg (by simp)]; simp
        have HNW := hide (fun W => name_at nm W h2)
        clear hm hpos
        cases hnm : Nm.name nm with
        | true =>
          rw [hnm] at HNW HW
          go_enter Tryd.func50, Tryd.ntmps50
          go_wp2_with fail
          go_quiet (fail)
          go_wp2_with (go_at_call 37; refine (HNW.out _).mono ?_; rintro e w' ⟨rfl, rfl⟩)
          go_ret
          exact ⟨by rw [HW.out]; rfl, HBN.out _⟩
        | false =>
          rw [hnm] at HNW HW
          go_enter Tryd.func50, Tryd.ntmps50
          go_wp2_with fail
          go_quiet (fail)
          go_wp2_with (go_at_call 37; refine (HNW.out _).mono ?_; rintro e w' ⟨rfl, rfl⟩)
          go_ret
          exact ⟨by rw [HW.out]; rfl, HBN.out _⟩
      · have h1i : ¬ (j : Int) = 1 := by omega
        have h1n : ((j : Int) != 1) = true := by simp; omega
        have h1e : ((j : Int) == 1) = false := by simp; omega
        by_cases hnm : nm = []
        · subst hnm
          have HW : Hid (wrongN false (j : Int) [] m a = 0) := by
            show _ = _; unfold wrongN; rw [if_neg (by decide), if_neg h19, if_neg HNL.out, if_neg (by simp), if_neg (fun h => h1i h.1)]
          clear hm
          go_enter Tryd.func50, Tryd.ntmps50
          go_wp2_with fail
          go_quiet (fail)
          go_wp2_with fail
          go_ret
          exact ⟨by rw [HW.out]; rfl, HBN.out _⟩
        · have HW : Hid (wrongN false (j : Int) nm m a = 1) := by
            show _ = _; unfold wrongN; rw [if_neg (by decide), if_neg h19, if_neg HNL.out, if_pos ⟨h1i, hnm⟩]
          have hs1 : nm.isEmpty = false := by simpa using hnm
          clear hm hnm
          go_enter Tryd.func50, Tryd.ntmps50
          go_wp2_with fail
          go_quiet (fail)
          go_wp2_with fail
          go_ret
          exact ⟨by rw [HW.out]; rfl, HBN.out _⟩
    · have HW : Hid (wrongN false (j : Int) nm m a = 1) := by show _ = _; unfold wrongN; rw [if_neg (by decide), if_neg h19, if_pos (.inr (.inr (by rw [← HD.out]; exact hm)))]
      have hmn : ((m : Int) != (d : Int)) = true := by simp; omega
      clear hm
      go_enter Tryd.func50, Tryd.ntmps50
      go_wp2_with fail
      go_quiet (fail)
      go_wp2_with fail
      go_ret
      exact ⟨by rw [HW.out]; rfl, HBN.out _⟩
set_option maxHeartbeats 4000000 in
set_option maxRecDepth 100000 in
theorem count_any : ∀ (x : Fm) (a : Nat), a ≤ 20 → ∀ (v : Value) (w : World), IsF (fun _ => True) w x v → PT w →
    Calls Tryd.prog 29 #[v, .int .i64 (a : Int)] w fun e w' => e = .returned (.tuple #[.int .i64 ((count x a).1 : Int), .int .i64 ((count x a).2 : Int)]) ∧ Below w.heap.size w w' := by
  intro x
  induction x using Fm.ind with
  | h z k nm l ih =>
    intro a ha v w h hp
    have HW := hide (wrongPart_any _ a ha v w h hp)
    have HP := hide hp
    have HH := hide h
    have HI := hide ih
    have HCE := hide (count_eq z k nm l a)
    obtain ⟨pv, rfl⟩ := h.ptr
    clear h hp ih
    simp only at HW
    obtain ⟨e0, he0⟩ : ∃ e0, e0 = wrongN z k nm l.length a := ⟨_, rfl⟩
    have HE := hide he0
    rw [← he0] at HW HCE
    clear he0
    by_cases h0 : e0 = 0
    · rw [if_neg (by rw [h0]; decide)] at HCE
      obtain ⟨hz, h19, _, _, hlp, _, _⟩ := wrongN_zero (HE.out.symm.trans h0)
      subst hz
      obtain ⟨_, _, h3, b, sa, sc, _, hv, c0, c1, c2, hrow⟩ := isF_node.1 HH.out
      simp only [Value.pointer.injEq] at hv
      subst hv
      subst h0
      have hl2 : l.length ≤ 2 := by rw [hlp]; exact partsOf_le k
      have HROW := hide hrow
      obtain ⟨n, hn⟩ : ∃ n, n = l.length := ⟨_, rfl⟩
      have HN := hide hn
      rw [← hn] at c2 hl2
      clear hn hrow hlp h3 c0 c1 HE
      go_enter Tryd.func29, Tryd.ntmps29
      go_wp2_with fail
      refine HW.out.mono ?_
      rintro e w1 ⟨rfl, hb1⟩
      have c2' := kept hb1 c2
      have HB1 := hide hb1
      clear hb1 HW c2
      go_wp2_with fail
      go_loopw [23, 7] (fun i s wr => ∃ (j : Nat) (m : Nat), j ≤ n ∧ i = .int .i64 (j : Int) ∧ s = .int .i64 (m : Int) ∧ m ≤ 1 + j * 2 ^ 20 ∧ Hid (count ⟨false, k, nm, l⟩ a = tally ((l.drop j).map fun x => count x (a + 1)) m) ∧ Hid (Below w.heap.size w wr)) (fun i _ _ => n - (intOf i).toNat)
      case atStart => exact ⟨0, 1, Nat.zero_le _, rfl, rfl, by omega, HCE.out, HB1.out⟩
      case round =>
        obtain ⟨j, m, hj, rfl, rfl, hm, HT, HB⟩ := hrel
        by_cases hlt : j < n
        · have hjl : j < l.length := by rw [← HN.out]; exact hlt
          obtain ⟨g, o, u, _, hsa, _, hc, hxu⟩ := HROW.out j l[j] (List.getElem?_eq_getElem hjl)
          have hc' := kept HB.out hc
          have hji : (j : Int) < (n : Int) := by omega
          have HC := hide (HI.out l[j] (List.getElem_mem hjl) (a + 1) (by omega) u wr (hxu.below HB.out) (HP.out.below HB.out))
          have HTT : Hid (count ⟨false, k, nm, l⟩ a = if (count l[j] (a + 1)).2 ≠ 0 then (0, (count l[j] (a + 1)).2) else tally ((l.drop (j + 1)).map fun x => count x (a + 1)) (m + (count l[j] (a + 1)).1)) := by
            show _ = _; rw [HT.out, List.drop_eq_getElem_cons hjl, List.map_cons, tally]
          have hle := count_le l[j] (a + 1)
          subst hsa
          obtain ⟨pu, rfl⟩ := hxu.ptr
          clear hc hxu HT
          generalize (count l[j] (a + 1)).1 = c1 at *
          generalize (count l[j] (a + 1)).2 = c2 at *
          clear hjl
          have hai : ((a + 1 : Nat) : Int) = (a : Int) + 1 := by omega
          rw [hai] at HC
          have hm2 : m ≤ 3000000 := by omega
          have hc2 : c1 ≤ 2000000 := by omega
          go_wp2_with fail
          refine HC.out.mono ?_
          rintro e w2 ⟨rfl, hb2⟩
          have HB2 := hide (HB.out.trans (hb2.mono HB.out.size))
          clear hb2 HC
          by_cases hz : c2 = 0
          · subst hz
            rw [if_neg (by decide)] at HTT
            go_wp2_with fail
            go_roundw
            case rel => exact ⟨j + 1, m + c1, by omega, by go_num, by go_num, by omega, HTT.out, HB2.out⟩
            case measure => simp [intOf]; omega
          · rw [if_pos hz] at HTT
            have hzi : ((c2 : Int) != 0) = true := by simp; omega
            go_wp2_with fail
            go_ret2
            exact ⟨by rw [HTT.out]; rfl, HB2.out⟩
        · have hjn : j = n := by omega
          have HF : Hid (count ⟨false, k, nm, l⟩ a = (m, 0)) := by show _ = _; rw [HT.out, List.drop_of_length_le (by rw [← HN.out]; omega)]; rfl
          subst hjn
          go_wp2_with fail
          go_ret2
          exact ⟨by rw [HF.out]; rfl, HB.out⟩
    · rw [if_pos h0] at HCE
      have h0i : ((e0 : Int) != 0) = true := by simp; omega
      clear HE
      go_enter Tryd.func29, Tryd.ntmps29
      go_wp2_with fail
      refine HW.out.mono ?_
      rintro e w1 ⟨rfl, hb1⟩
      have HB1 := hide hb1
      clear hb1 HW
      go_wp2_with fail
      go_ret2
      exact ⟨by rw [HCE.out]; rfl, HB1.out⟩
/-- an error: none, or one by its number -/
def errV : Option Nat → Value
  | none => .nilIface
  | some e => .iface 30 (.int .i64 (e : Int))
set_option maxHeartbeats 2000000 in
set_option maxRecDepth 100000 in
theorem Right_any (x : Fm) (v : Value) (w : World) (h : IsF (fun _ => True) w x v) (hp : PT w) :
    Calls Tryd.prog 14 #[v] w fun e w' => e = .returned (errV (right x)) ∧ Below w.heap.size w w' := by
  have HC := hide (count_any x 0 (by omega) v w h hp)
  have HR : Hid (right x = if (count x 0).2 ≠ 0 then some (count x 0).2 else if 100 < (count x 0).1 then some 4 else none) := rfl
  have hle := count_le x 0
  generalize right x = r at *
  generalize (count x 0).1 = c1 at *
  generalize (count x 0).2 = c2 at *
  obtain ⟨pv, rfl⟩ := h.ptr
  clear h hp
  go_enter Tryd.func14, Tryd.ntmps14
  go_wp2_with fail
  refine HC.out.mono ?_
  rintro e w1 ⟨rfl, hb1⟩
  have HB1 := hide hb1
  clear hb1 HC
  by_cases hz : c2 = 0
  · subst hz
    rw [if_neg (by decide)] at HR
    by_cases hc : 100 < c1
    · rw [if_pos hc] at HR
      have hci : (100 : Int) < (c1 : Int) := by omega
      go_wp2_with fail
      go_ret
      exact ⟨by rw [HR.out]; rfl, HB1.out⟩
    · rw [if_neg hc] at HR
      have hci : ¬ (100 : Int) < (c1 : Int) := by omega
      go_wp2_with fail
      go_ret
      exact ⟨by rw [HR.out]; rfl, HB1.out⟩
  · rw [if_pos hz] at HR
    have hzi : ((c2 : Int) != 0) = true := by simp; omega
    go_wp2_with fail
    go_ret
    exact ⟨by rw [HR.out]; rfl, HB1.out⟩
end Ls
end Go.Proofs.YtmdblokmplbpmaaDoor
