/-
  The walk of package block's Part.
-/
import Derived.Test.YtdeijfkahhgojaaDoorBkPart
namespace Go.Proofs.YtdeijfkahhgojaaDoor
namespace Bk
open Go.RowKit
/-- what Part comes to -/
def PartsDone (w : World) (N T : List (List Int)) (a b : Int) (e : Ending) (w' : World) : Prop := Below w.heap.size w w' ∧
  ((check N T ≠ none ∧ ∃ v, e = .returned (.tuple #[.slice none 0 0, v]) ∧ ErrIs w' v (check N T)) ∨
   (check N T = none ∧ (hasB N.length a && hasB N.length b) = false ∧ e = .returned (.tuple #[.slice none 0 0, .iface 26 (.int .i64 2)])) ∨
   (check N T = none ∧ ∃ x y : Nat, a = (x : Int) ∧ b = (y : Int) ∧ x < N.length ∧ y < N.length ∧ Alike (tab N T) x y ∧ e = .returned (.tuple #[.slice none 0 0, .iface 26 (.int .i64 8)])) ∨
   (check N T = none ∧ ∃ x y : Nat, a = (x : Int) ∧ b = (y : Int) ∧ x < N.length ∧ y < N.length ∧ ∃ M K i m g c, Found (tab N T) x y M K i m ∧ e = .returned (.tuple #[.slice (some ⟨g, 0, none⟩) ((pathTo M K).length + 1) c, .nilIface]) ∧ Rw w' w.heap.size (.slice (some ⟨g, 0, none⟩) ((pathTo M K).length + 1) c) (ints (pathTo M K ++ [i]))))
theorem hasB_nat {n : Nat} {x : Int} (h : hasB n x = true) : ∃ k : Nat, x = (k : Int) ∧ k < n := by
  simp [hasB] at h
  exact ⟨x.toNat, by omega, by omega⟩
set_option maxHeartbeats 4000000 in
set_option maxRecDepth 100000 in
theorem Part_any (N T : List (List Int)) (nv tv : Value) (a b : Int) (w : World) (hN : Rows w nv N) (hT : Rows w tv T) :
    Calls Tryd.prog 14 #[.agg #[nv, tv], .int .i64 a, .int .i64 b] w (PartsDone w N T a b) := by
  obtain ⟨wA, hwA⟩ : ∃ wA, wA = w.alloc (.cells #[nv, tv] 24) := ⟨_, rfl⟩
  have hBA : Below w.heap.size w wA := by rw [hwA]; exact (Below.refl _ _).alloc (Nat.le_refl _) _
  have hTA : Tab wA w.heap.size nv tv := by rw [hwA]; exact Tab.new _ _ _
  have HC := hide (Check_any N T nv tv wA (hN.below hBA) (hT.below hBA))
  have HPA := hide (fun W x y (hG : Good N T) (hW : Below wA.heap.size wA W) (hx : x < N.length) (hy : y < N.length) => part_any N T nv tv x y W hG (hN.below (then_ hBA hW)) (hT.below (then_ hBA hW)) hx hy)
  obtain ⟨na, nc, rfl⟩ := hN.slice
  obtain ⟨ta, tc, rfl⟩ := hT.slice
  have HBA := hide hBA
  have HTA := hide hTA
  obtain ⟨t0, t1⟩ := hTA
  have nq := neqNil
  have nn := neqNilN
  have q0 := fun w n c => eqNil_none w n c
  have q1 := fun w a n c => eqNil_some w a n c
  clear hN hT hBA
  go_enter Tryd.func14, Tryd.ntmps14
  go_wp2_with fail
  rw [← hwA]
  clear hwA
  refine HC.out.mono ?_
  rintro e w1 ⟨v, rfl, he, hb1⟩
  have HB1 := hide hb1
  have HT1 := hide (HTA.out.below hb1)
  obtain ⟨s0, s1⟩ := HTA.out.below hb1
  cases hck : check N T with
  | none =>
    rw [hck] at he
    obtain rfl : v = .nilIface := he
    have HG := hide (good_of hck)
    have HCK := hide hck
    clear hb1 hck HC
    have HS1 := hide (fun W x => hasState_any x N.length na nc (.slice ta T.length tc) W ⟨_, _, _, rfl⟩)
    cases hA : hasB N.length a with
    | false =>
      have HSA := hide (HS1.out w1 a)
      rw [hA] at HSA
      have HFIN : Hid (∀ W, Below w1.heap.size w1 W → PartsDone w N T a b (.returned (.tuple #[.slice none 0 0, .iface 26 (.int .i64 2)])) W) := fun W hW => ⟨then_ HBA.out (then_ HB1.out hW), .inr (.inl ⟨HCK.out, by rw [hA]; rfl, rfl⟩)⟩
      clear hA
      go_wp2_with (go_at_call 25; (with_reducible refine HSA.out.mono ?_); rintro e w2 ⟨rfl, hb2⟩; have HF := hide (HFIN.out w2 hb2); clear hb2)
      go_ret2
      exact HF.out
    | true =>
      have HSA := hide (HS1.out w1 a)
      rw [hA] at HSA
      cases hB : hasB N.length b with
      | false =>
        have HSB := hide (fun W => HS1.out W b)
        rw [hB] at HSB
        have HFIN : Hid (∀ W W', Below w1.heap.size w1 W → Below W.heap.size W W' → PartsDone w N T a b (.returned (.tuple #[.slice none 0 0, .iface 26 (.int .i64 2)])) W') := fun W W' hW hW' => ⟨then_ HBA.out (then_ HB1.out (then_ hW hW')), .inr (.inl ⟨HCK.out, by rw [hB, hA]; rfl, rfl⟩)⟩
        clear hA hB
        go_wp2_with (first
          | (go_at_call 25; (with_reducible refine HSA.out.mono ?_); rintro e w2 ⟨rfl, hb2⟩; have HB2 := hide hb2; obtain ⟨r0, r1⟩ := HT1.out.below hb2; clear hb2)
          | (go_at_call 25; (with_reducible refine (HSB.out _).mono ?_); rintro e w3 ⟨rfl, hb3⟩; have HF := hide (HFIN.out w2 w3 HB2.out hb3); clear hb3))
        go_ret2
        exact HF.out
      | true =>
        have HSB := hide (fun W => HS1.out W b)
        rw [hB] at HSB
        obtain ⟨x, rfl, hx⟩ := hasB_nat hA
        obtain ⟨y, rfl, hy⟩ := hasB_nat hB
        have HP2 := hide (fun W (hW : Below w1.heap.size w1 W) => HPA.out W x y HG.out (then_ HB1.out hW) hx hy)
        have HT2 := hide (fun W (hW : Below w1.heap.size w1 W) => HT1.out.below hW)
        clear hA hB HPA
        go_wp2_with (first
          | (go_at_call 25; (with_reducible refine HSA.out.mono ?_); rintro e w2 ⟨rfl, hb2⟩; have HB2 := hide hb2; obtain ⟨r0, r1⟩ := HT2.out w2 hb2; clear hb2)
          | (go_at_call 25; (with_reducible refine (HSB.out _).mono ?_); rintro e w3 ⟨rfl, hb3⟩; have HB3 := hide hb3; obtain ⟨r2, r3⟩ := HT2.out w3 (then_ HB2.out hb3); clear hb3))
        refine (HP2.out _ (then_ HB2.out HB3.out)).mono ?_
        rintro e w4 ⟨hb4, hpd⟩
        have HB4 := hide (then_ HBA.out (then_ HB1.out (then_ (then_ HB2.out HB3.out) hb4)))
        rcases hpd with ⟨rfl, hal⟩ | ⟨M, K, i, m, g, c, hF, rfl, hrw⟩
        · have HFIN : Hid (PartsDone w N T (x : Int) (y : Int) (.returned (.tuple #[.slice none 0 0, .iface 26 (.int .i64 8)])) w4) := ⟨HB4.out, .inr (.inr (.inl ⟨HCK.out, x, y, rfl, rfl, hx, hy, hal, rfl⟩))⟩
          clear hal hb4 HP2
          go_wp2_with fail
          go_ret2
          exact HFIN.out
        · have HFIN : Hid (PartsDone w N T (x : Int) (y : Int) (.returned (.tuple #[.slice (some ⟨g, 0, none⟩) ((pathTo M K).length + 1) c, .nilIface])) w4) := ⟨HB4.out, .inr (.inr (.inr ⟨HCK.out, x, y, rfl, rfl, hx, hy, M, K, i, m, g, c, hF, rfl, own_mono hrw (Nat.le_trans (Nat.le_trans HBA.out.size HB1.out.size) (then_ HB2.out HB3.out).size)⟩))⟩
          clear hF hrw hb4 HP2
          go_wp2_with fail
          go_ret2
          exact HFIN.out
  | some r =>
    obtain ⟨t, y, rfl⟩ := he.iface (by rw [hck]; simp)
    have HFIN : Hid (PartsDone w N T a b (.returned (.tuple #[.slice none 0 0, .iface t y])) w1) := ⟨then_ HBA.out HB1.out, .inl ⟨by rw [hck]; simp, _, rfl, he⟩⟩
    clear hb1 he hck HC HPA
    go_wp2_with fail
    go_ret2
    exact HFIN.out
end Bk
end Go.Proofs.YtdeijfkahhgojaaDoor
