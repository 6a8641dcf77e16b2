/-
  The walk of package lasso's Holds.
-/
import Derived.Test.YtmdblokmplbpmaaDoorLsNow
namespace Go.Proofs.YtmdblokmplbpmaaDoor
namespace Ls
open Go.RowKit
/-- what is wrong with a word, or with a formula -/
def wrong2 (A R : List (List (List UInt8))) (x : Fm) : Option Nat := if (check A R).isSome then check A R else right x
/-- what Holds comes to -/
def Held (A R : List (List (List UInt8))) (x : Fm) (w : World) (e : Ending) (w' : World) : Prop :=
  Below w.heap.size w w' ∧ ((∃ k, wrong2 A R x = some k ∧ e = .returned (.tuple #[.slice none 0 0, errV (some k)])) ∨
  (wrong2 A R x = none ∧ ∃ g, e = .returned (.tuple #[.slice (some ⟨g, 0, none⟩) (A ++ R).length (A ++ R).length, .nilIface]) ∧ BRow w' g (A ++ R).length (sem (A ++ R) A.length x)))
theorem errV_some (k : Nat) : errV (some k) = .iface 30 (.int .i64 (k : Int)) := rfl
theorem errV_none : errV none = .nilIface := rfl
theorem errNeq (k : Nat) (w : World) : (binOp BinOp.neq 34 (.iface 30 (.int .i64 (k : Int))) .nilIface).run Tryd.prog w = .ok (.bool true) w := by kernel_rfl
theorem nilNeq (w : World) : (binOp BinOp.neq 34 .nilIface .nilIface).run Tryd.prog w = .ok (.bool false) w := by kernel_rfl
theorem check_none {A R : List (List (List UInt8))} (h : check A R = none) : 0 < R.length ∧ A.length + R.length ≤ 60 := by
  unfold check at h
  by_cases h1 : R.length < 1 ∨ 60 < A.length + R.length
  · rw [if_pos h1] at h; cases h
  · omega
set_option maxHeartbeats 8000000 in
set_option maxRecDepth 100000 in
theorem Holds_any (A R : List (List (List UInt8))) (x : Fm) (av rv v : Value) (w : World) (hA : Rows w av A) (hR : Rows w rv R) (hla : A.length ≤ mx) (hlr : R.length ≤ mx) (hF : IsF (fun _ => True) w x v) (hP : PT w) :
    Calls Tryd.prog 10 #[.agg #[av, rv], v] w (Held A R x w) := by
  have q1 := errNeq
  have q2 := nilNeq
  obtain ⟨wA, hwA⟩ : ∃ wA, wA = w.alloc (.cells #[av, rv] 24) := ⟨_, rfl⟩
  have HBA : Hid (Below w.heap.size w wA) := by rw [hwA]; exact newB _ _
  have ca0 : wA.cell? ⟨w.heap.size, 0, none⟩ = some av := by rw [hwA]; exact two_new0 _ _ _ _
  have ca1 : wA.cell? ⟨w.heap.size, 1, none⟩ = some rv := by rw [hwA]; exact two_new1 _ _ _ _
  have HCK := hide (Check_any A R av rv wA (hA.below HBA.out) (hR.below HBA.out) hla hlr)
  have HRT := hide (fun W (hW : Below w.heap.size w W) => Right_any x v W (hF.below hW) (hP.below hW))
  have HTM := hide (fun (h1 : 0 < R.length) (h2 : A.length + R.length ≤ 60) W (hW : Below w.heap.size w W) => timesOf_any A R av rv W (hA.below hW) (hR.below hW) h1 h2)
  have HF := hide hF
  obtain ⟨aa, ac, rfl⟩ := hA.slice
  obtain ⟨ra, rc, rfl⟩ := hR.slice
  obtain ⟨pv, rfl⟩ := hF.ptr
  have HWA := hide hwA
  have HH : Hid (∀ e w', Held A R x w e w' ↔ (Below w.heap.size w w' ∧ ((∃ k, wrong2 A R x = some k ∧ e = .returned (.tuple #[.slice none 0 0, errV (some k)])) ∨ (wrong2 A R x = none ∧ ∃ g, e = .returned (.tuple #[.slice (some ⟨g, 0, none⟩) (A ++ R).length (A ++ R).length, .nilIface]) ∧ BRow w' g (A ++ R).length (sem (A ++ R) A.length x))))) := fun _ _ => Iff.rfl
  clear hwA hA hR hF hP
  cases hck : check A R with
  | some k =>
    have HW2 : Hid (wrong2 A R x = some k) := by show _ = _; unfold wrong2; rw [hck]; rfl
    rw [hck, errV_some] at HCK
    clear hck
    go_enter Tryd.func10, Tryd.ntmps10
    go_wp2_with fail
    rw [← HWA.out]
    refine HCK.out.mono ?_
    rintro e w1 ⟨rfl, hb1⟩
    have HB1 := hide (then_ HBA.out hb1)
    clear hb1 HCK
    go_wp2_with fail
    go_ret2
    exact (HH.out _ _).2 ⟨HB1.out, .inl ⟨k, HW2.out, rfl⟩⟩
  | none =>
    obtain ⟨hr0, h60⟩ := check_none hck
    have HW2 : Hid (wrong2 A R x = right x) := by show _ = _; unfold wrong2; rw [hck]; rfl
    rw [hck, errV_none] at HCK
    have HRN : Hid (right x = none → ok x 0 = true) := fun h => ((right_none x).1 h).1
    clear hck
    cases hrt : right x with
    | some k =>
      rw [hrt, errV_some] at HRT
      rw [hrt] at HW2
      clear hrt HRN
      go_enter Tryd.func10, Tryd.ntmps10
      go_wp2_with fail
      rw [← HWA.out]
      refine HCK.out.mono ?_
      rintro e w1 ⟨rfl, hb1⟩
      have HB1 := hide (then_ HBA.out hb1)
      have HR1 := hide (HRT.out w1 HB1.out)
      clear hb1 HCK
      go_wp2_with fail
      refine HR1.out.mono ?_
      rintro e w2 ⟨rfl, hb2⟩
      have HB2 := hide (then_ HB1.out hb2)
      clear hb2 HR1
      go_wp2_with fail
      go_ret2
      exact (HH.out _ _).2 ⟨HB2.out, .inl ⟨k, HW2.out, rfl⟩⟩
    | none =>
      rw [hrt, errV_none] at HRT
      rw [hrt] at HW2
      have HOKX := hide (HRN.out hrt)
      clear hrt HRN
      have hLL : (A ++ R).length = A.length + R.length := List.length_append
      have HNW : Hid (∀ (a : Option Addr) (c : Nat), NowOK (A ++ R) A.length a c x) := fun a c => now_any (A ++ R) A.length (by rw [hLL]; omega) (by rw [hLL]; omega) a c x
      obtain ⟨n, hn⟩ : ∃ n, n = (A ++ R).length := ⟨_, rfl⟩
      have HN := hide hn
      rw [← hn] at HH hLL
      have hn60 : n ≤ 60 := by omega
      have HBK := hide (fun W => makeBs n (by omega) W)
      have hmk : ∀ W, (Instr.makeSlice 37 (.int .i64 (n : Int)) (.int .i64 (n : Int))).run Tryd.prog W = .ok (.slice (some ⟨W.heap.size, 0, none⟩) n n) (W.alloc (.cells ⟨List.replicate n (.bool false)⟩ 4)) := HBK.out
      have HTM2 := hide (HTM.out hr0 h60)
      clear hn hLL hr0 h60 HTM HBK
      go_enter Tryd.func10, Tryd.ntmps10
      go_wp2_with fail
      rw [← HWA.out]
      refine HCK.out.mono ?_
      rintro e w1 ⟨rfl, hb1⟩
      have HB1 := hide (then_ HBA.out hb1)
      have HR1 := hide (HRT.out w1 HB1.out)
      have HA1 := hide (kept hb1 ca0)
      have HA2 := hide (kept hb1 ca1)
      clear hb1 HCK ca0 ca1 HWA
      go_wp2_with fail
      refine HR1.out.mono ?_
      rintro e w2 ⟨rfl, hb2⟩
      have HB2 := hide (then_ HB1.out hb2)
      have cb0 := kept hb2 HA1.out
      have cb1 := kept hb2 HA2.out
      have HT2 := hide (HTM2.out w2 HB2.out)
      clear hb2 HR1 HTM2
      go_wp2_with fail
      refine HT2.out.mono ?_
      rintro e w3 ⟨nv, rfl, hrows, hb3⟩
      have HB3 := hide (then_ HB2.out hb3)
      have HRW := hide hrows
      obtain ⟨na, nc, rfl⟩ := hrows.slice
      clear hb3 HT2 hrows cb0 cb1
      obtain ⟨w4, hw4⟩ : ∃ w4, w4 = w3.alloc (.cells #[.slice na (A ++ R).length nc, .int .i64 (A.length : Int)] 67) := ⟨_, rfl⟩
      have HB34 : Hid (Below w3.heap.size w3 w4) := by rw [hw4]; exact newB _ _
      have HTM4 : Hid (Tm w4 w3.heap.size (.slice na (A ++ R).length nc) A.length) := by rw [hw4]; exact Tm.new _ _ _
      have HC5 := hide (HNW.out na nc 0 HOKX.out (fun _ => True) w3 w4 _ (HF.out.below HB3.out) HRW.out HB34.out (fun _ _ => trivial) (fun _ _ => trivial))
      rw [← HN.out] at hw4 HTM4 HC5 HRW ⊢
      have HW4 := hide hw4
      clear hw4 HNW
      go_wp2_with fail
      rw [← HW4.out]
      refine HC5.out.mono ?_
      rintro e w5 ⟨f5, rfl, hf5, hb5⟩
      have HB5 := hide (then_ HB3.out (then_ HB34.out hb5))
      have HS5 := hide hf5
      obtain ⟨K, cs, rfl, _, hent, hcall⟩ := hf5
      have he1 : ∀ (args : Array Value) (w : World), (callFunc K args).run Tryd.prog w = .ok (.enter K args) w := hent
      have HCC := hide hcall
      obtain ⟨tm0, tm1⟩ := HTM4.out.below hb5
      clear hb5 HC5 HW4 hent hcall
      go_wp2_with fail
      generalize sem (A ++ R) A.length x = sm at *
      obtain ⟨w6, hw6⟩ : ∃ w6, w6 = w5.alloc (.cells (Array.replicate n (.bool false)) 4) := ⟨_, rfl⟩
      have HB56 : Hid (Below w5.heap.size w5 w6) := by rw [hw6]; exact newB _ _
      have HR6 : Hid (BRow w6 w5.heap.size n (fun i => if i < 0 then sm i else false)) := by
        rw [hw6]
        have : (Array.replicate n (Value.bool false)) = ⟨(List.range n).map fun i => Value.bool (if i < 0 then sm i else false)⟩ := by
          apply Array.ext'
          apply List.ext_getElem
          · simp
          · intro i h1 h2
            simp
        rw [this]
        exact RowIs.new _ _ _
      rw [← hw6]
      clear hw6 hmk tm0 tm1
      go_loopw [33] (fun i wr => ∃ j : Nat, j ≤ n ∧ i = .int .i64 (j : Int) ∧ Hid (Below w5.heap.size w5 wr) ∧ Hid (BRow wr w5.heap.size n (fun i => if i < j then sm i else false))) (fun i _ => n - (intOf i).toNat)
      case atStart => exact ⟨0, Nat.zero_le _, rfl, HB56.out, HR6.out⟩
      case round =>
        obtain ⟨j, hj, rfl, HB, HR⟩ := hrel
        by_cases hlt : j < n
        · have HC := hide (HCC.out j wr (Stay.of_below HB.out) hlt)
          have hji : (j : Int) < (n : Int) := by omega
          go_wp2_with fail
          refine HC.out.mono ?_
          rintro e w7 ⟨rfl, hb7⟩
          have HR7 := hide (HR.out.below hb7)
          have HB7 := hide (HB.out.trans (hb7.mono HB.out.size))
          have z0 := HR7.out.cell j hlt
          have z1 := RowIs.frozen HR7.out j
          have HNX : Hid (BRow (w7.setCell ⟨w5.heap.size, j, none⟩ (.bool (sm j))) w5.heap.size n (fun i => if i < j + 1 then sm i else false)) := (HR7.out.set j (sm j)).congr fun i _ => by
            by_cases h1 : i = j
            · rw [if_pos h1, if_pos (by omega), h1]
            · rw [if_neg h1]
              by_cases h2 : i < j
              · rw [if_pos h2, if_pos (by omega)]
              · rw [if_neg h2, if_neg (by omega)]
          have HBX : Hid (Below w5.heap.size w5 (w7.setCell ⟨w5.heap.size, j, none⟩ (.bool (sm j)))) := HB7.out.setCell (Nat.le_refl _) _
          clear hb7 HC
          generalize sm j = yj at *
          go_wp2_with fail
          go_roundw
          case rel => exact ⟨j + 1, by omega, by go_num, HBX.out, HNX.out⟩
          case measure => simp [intOf]; omega
        · have hjn : j = n := by omega
          have HFI : Hid (BRow wr w5.heap.size n sm) := HR.out.congr fun i hi => by rw [if_pos (by omega)]
          subst hjn
          have HBZ := hide (then_ HB5.out HB.out)
          clear HR
          go_wp2_with fail
          go_ret2
          exact (HH.out _ _).2 ⟨HBZ.out, .inr ⟨HW2.out, _, rfl, HFI.out⟩⟩
end Ls
end Go.Proofs.YtmdblokmplbpmaaDoor
