/-
  The walk of package machine's Of: a machine of a program, in memory. The walk of the statements' own great: how many states and inputs a program has. What is refused, and what is too much to be tried. The walk of the statements' own machines: the program's, and the document's. The walks of Place, and of the law's own at. The walk of the statements' own at: is an error this fault? The walk of the statements' own bare; own rows of numbers as slices. The walk of the law's own sameInts, at two like lists. Slices of bools: how long they are. The walk of the statements' own sameBools. The walk of the statements' own read: a text as an expression, by both, and what was read. Plain mathematics: the names of an expression that was read are not empty. The walks of package prop's told, of the statements' own at, and of their closures. The walk of package prop's hasNames.
-/
import Derived.Test.YtgldbliohpfljaaGreatDoorMcFillAll
import Derived.Test.YtgldbliohpfljaaGreatDoorMcOffAll
import Derived.Test.YtgldbliohpfljaaGreatDoorNaEdgesAll
import Derived.Test.YtgldbliohpfljaaGreatDoorScBoundAll
import Derived.Test.YtgldbliohpfljaaGreatDoorRfMachOfAll
import Derived.Test.YtgldbliohpfljaaGreatDoorLdTakeRAll
import Derived.WalkMore
import Derived.Test.YtgldbliohpfljaaGreatDoorNdNamedAll
import Derived.Test.YtgldbliohpfljaaGreatDoorRlEdgesAll
import Derived.Test.YtgldbliohpfljaaGreatDoorRdListAll
import Derived.Test.YtgldbliohpfljaaGreatDoorScStepAll
import Derived.Test.YtgldbliohpfljaaGreatDoorErAsAll
import Derived.Test.YtgldbliohpfljaaGreatDoorRtParseAll
import Derived.Test.YtgldbliohpfljaaGreatDoorNaNamesAll
import Derived.Test.YtgldbliohpfljaaGreatDoorLdRepAll
import Derived.Test.YtgldbliohpfljaaGreatDoorLdCheckAll
namespace Go.Proofs.YtgldbliohpfljaaGreatDoor
section
open Go.RowKit
/-- block bm is the machine of a program -/
def IsMach (W : World) (bm : Nat) (p : Ld.Prg) : Prop := ∃ nv rv g gN gS lo uN uS, MachAt W bm nv rv (Mc.total (Mc.parts p)) (2 ^ (Ld.kindL p.names 1).length) (slV gN (Mc.total (Mc.parts p))) (slV g p.names.length) (slV gS (Mc.total (Mc.parts p))) ∧ ((uN.length = Mc.total (Mc.parts p) ∧ uS.length = Mc.total (Mc.parts p)) ∧ LL W gN 36 3 (Mc.total (Mc.parts p)) (2 ^ (Ld.kindL p.names 1).length) lo uN (Mc.nextRow p (Ld.kindL p.names 1).length (2 ^ (Ld.kindL p.names 1).length)) ∧ LL W gS 36 3 (Mc.total (Mc.parts p)) (2 ^ (Ld.kindL p.names 1).length) lo uS (Mc.seesRow p (Ld.kindL p.names 1).length (2 ^ (Ld.kindL p.names 1).length))) ∧ (IsPrg W p (.agg #[nv, rv]) ∧ RowIs W g 234 ((Mc.parts p).flatMap ptCells))
theorem IsMach.below {W W' : World} {bm : Nat} {p : Ld.Prg} (h : IsMach W bm p) (hb : Below W.heap.size W W') : IsMach W' bm p := by
  obtain ⟨nv, rv, g, gN, gS, lo, uN, uS, h1, ⟨h2, h3, h4⟩, h5, h6⟩ := h
  exact ⟨nv, rv, g, gN, gS, lo, uN, uS, h1.below hb, ⟨h2, h3.below hb, h4.below hb⟩, h5.below hb, h6.below hb⟩
theorem IsMach.lt {W : World} {bm : Nat} {p : Ld.Prg} (h : IsMach W bm p) : bm < W.heap.size := by
  obtain ⟨nv, rv, g, gN, gS, lo, uN, uS, h1, _⟩ := h
  exact (Array.getElem?_eq_some_iff.1 h1).1
/-- what Of comes to -/
def Ofed (w : World) (p : Ld.Prg) (e : Ending) (w' : World) : Prop := Below w.heap.size w w' ∧ (if (Ld.kindL p.names 1).length ≤ 6 ∧ Mc.total (Mc.parts p) ≤ 4096 then ∃ bm, e = .returned (.tuple #[.pointer (some ⟨bm, 0, none⟩), .nilIface]) ∧ w.heap.size ≤ bm ∧ IsMach w' bm p else e = .returned (.tuple #[.pointer none, .iface 40 (.int .i64 4)]))
theorem below_but {w w' : World} {k : Nat} (h : ∀ j, j < w.heap.size → j ≠ k → w'.heap[j]? = w.heap[j]?) (hz : w.heap.size ≤ w'.heap.size) (h1 : w'.os = w.os) (h2 : w'.tape = w.tape) (h3 : w'.output = w.output) (hk : k ≤ w.heap.size) : Below k w w' := ⟨h1, h2, h3, hz, fun j hj => h j (by omega) (by omega)⟩
set_option maxHeartbeats 4000000 in
set_option maxRecDepth 100000 in
theorem Of_any (p : Ld.Prg) (v : Value) (w : World) (h : IsPrg w p v) (hck : Ld.check p = none) :
    Calls Tryz.prog 30 #[v] w (Ofed w p) := by
  have HCK := hide hck
  have HPR := hide h
  obtain ⟨nv, rv, rfl, hn, hr⟩ := h
  obtain ⟨na, nk, nc, rfl⟩ := slice_of hn
  obtain ⟨ra, rk, rc, rfl⟩ := slice_ofR hr
  have HNA := hide hn
  obtain ⟨wA, hwA⟩ : ∃ wA, wA = w.alloc (.cells #[.slice na nk nc, .slice ra rk rc] 83) := ⟨_, rfl⟩
  have hbA : Below w.heap.size w wA := by rw [hwA]; exact (Below.refl _ _).alloc (Nat.le_refl _) _
  have hsA : wA.heap.size = w.heap.size + 1 := by rw [hwA]; simp
  have hA : wA.heap[w.heap.size]? = some (.cells #[.slice na nk nc, .slice ra rk rc] 83 (0, 0)) := by rw [hwA]; exact heap_alloc_new _ _
  have HX : Hid (∀ W, Below wA.heap.size wA W → W.cell? ⟨w.heap.size, 0, none⟩ = some (.slice na nk nc) ∧ W.cell? ⟨w.heap.size, 1, none⟩ = some (.slice ra rk rc) ∧ Below w.heap.size w W) := by
    intro W hW
    have e0 := (hW.block w.heap.size (by omega)).trans hA
    exact ⟨by rw [Lib.cell_of_heap e0]; rfl, by rw [Lib.cell_of_heap e0]; rfl, hbA.trans (hW.mono (by omega))⟩
  have HC := hide (Check_any p _ wA (HPR.out.below hbA))
  rw [hck] at HC
  rw [hwA] at HC
  have HWA := hide hwA
  have hq12 : (Ld.kindL p.names 1).length ≤ 12 := Nat.le_trans (Ld.placesTo_le _ _ _) (Ld.check_names p hck).1
  obtain ⟨q, hqq⟩ : ∃ q, q = (Ld.kindL p.names 1).length := ⟨_, rfl⟩
  have HQ := hide hqq
  rw [← hqq] at hq12
  clear hwA hn hr hbA hA hqq hck
  go_enter Tryz.func30, Tryz.ntmps30
  go_wp2_with fail
  refine HC.out.mono ?_
  rintro e w1 ⟨er, rfl, he, hb1⟩
  obtain rfl : er = .nilIface := he
  rw [← HWA.out] at hb1
  have HB1 := hide hb1
  obtain ⟨c0, c1, hw1⟩ := HX.out w1 hb1
  have HKI := hide (Kind_any p.names (.slice na nk nc) (.slice ra rk rc) 1 w1 (HNA.out.below hw1) ⟨_, _, _, rfl⟩)
  rw [← HQ.out] at HKI
  clear hb1 HC hw1
  go_wp2_with fail
  refine HKI.out.mono ?_
  rintro e w2 ⟨kv, rfl, hown, hb2⟩
  obtain ⟨ka, kc, rfl⟩ := own_slice hown
  have HB2 := hide (HB1.out.trans (hb2.mono HB1.out.size))
  obtain ⟨d0, d1, hw2⟩ := HX.out w2 HB2.out
  have HW2 := hide hw2
  clear hown hb2 HKI c0 c1 hw2
  by_cases hq6 : 6 < q
  · have hq6' : (6 : Int) < (q : Int) := by omega
    go_wp2_with fail
    refine bodyPost_ret (results_tmp2 rfl _ _ _) rfl ?_
    exact ⟨HW2.out, by rw [if_neg (by rw [← HQ.out]; omega)]; rfl⟩
  have hq6' : ¬ (6 : Int) < (q : Int) := by omega
  have HPA := hide (partsOf_any p _ w2 (HPR.out.below HW2.out) HCK.out)
  go_wp2_with fail
  refine HPA.out.mono ?_
  rintro e w3 ⟨g, rfl, hrow, hg, hb3⟩
  have HB3 := hide (HB2.out.trans (hb3.mono HB2.out.size))
  obtain ⟨f0, f1, hw3⟩ := HX.out w3 HB3.out
  have HROW := hide hrow
  have hpl : (Mc.parts p).length = p.names.length := Mc.parts_len p
  have HSA := hide (states_any (Mc.parts p) g w3 hrow (by rw [hpl]; exact (Ld.check_names p HCK.out).1) (Mc.parts_ok p) (Mc.parts_le p HCK.out))
  rw [hpl] at HSA
  have hgl := hrow.lt
  obtain ⟨n, hnn⟩ : ∃ n, n = p.names.length := ⟨_, rfl⟩
  have HN := hide hnn
  rw [← hnn] at HSA ⊢
  clear hpl hrow hb3 HPA hw3 d0 d1 hnn
  unfold slV at *
  go_wp2_with fail
  refine HSA.out.mono ?_
  rintro e w4 ⟨rfl, hb4⟩
  have HB4 := hide (HB3.out.trans (hb4.mono HB3.out.size))
  obtain ⟨g0, g1, hw4⟩ := HX.out w4 HB4.out
  have HW4 := hide hw4
  have HROW4 := hide (HROW.out.below hb4)
  obtain ⟨S, hSS⟩ : ∃ S, S = Mc.total (Mc.parts p) := ⟨_, rfl⟩
  have HS := hide hSS
  rw [← hSS]
  clear hb4 HSA hw4 f0 f1 HROW hSS
  by_cases hS4 : S ≤ 4096
  · rw [if_pos hS4]
    have HD4 : Hid (Below w4.heap.size w4 w4.drew) := ⟨rfl, rfl, rfl, Nat.le_refl _, fun _ _ => rfl⟩
    have HCO := hide (copied_any p _ w4.drew (HPR.out.below (HW4.out.trans (HD4.out.mono HW4.out.size))))
    have hp : (2 : Nat) ^ q ≤ 2 ^ 6 := Nat.pow_le_pow_right (by decide) (by omega)
    obtain ⟨I, hII⟩ : ∃ I, I = 2 ^ q := ⟨_, rfl⟩
    have HII := hide hII
    have HP2 : Hid (IntKind.i64.wrap ((2 : Int) ^ q) = (I : Int)) := by
      show IntKind.i64.wrap _ = _
      have e : ((2 : Int) ^ q) = (I : Int) := by rw [hII, Int.natCast_pow]; rfl
      rw [e, IntKind.wrap_i64]
      rw [← hII] at hp
      omega
    rw [← hII] at hp
    clear hII
    go_wp2_with fail
    go_region_with (go_at_call 77; (with_reducible refine HCO.out.mono ?_); rintro e w5 ⟨u, rfl, hp5, hb5⟩; obtain ⟨nv5, rv5, hu5, hn5, hr5⟩ := hp5; subst hu5; obtain ⟨na5, nk5, nc5, hna5⟩ := slice_of hn5; obtain ⟨ra5, rk5, rc5, hra5⟩ := slice_ofR hr5; subst hna5; subst hra5)
    rw [HP2.out]
    obtain ⟨w6, hw6⟩ : ∃ w6, w6 = w5.alloc (.cells #[.slice na5 nk5 nc5, .slice ra5 rk5 rc5, .int .i64 (S : Int), .int .i64 (I : Int), .slice none 0 0, .slice (some ⟨g, 0, none⟩) n n, .slice none 0 0] 102) := ⟨_, rfl⟩
    have hb6 : Below w5.heap.size w5 w6 := by rw [hw6]; exact (Below.refl _ _).alloc (Nat.le_refl _) _
    have hz6 : w6.heap.size = w5.heap.size + 1 := by rw [hw6]; simp
    have hM6 : MachAt w6 w5.heap.size (.slice na5 nk5 nc5) (.slice ra5 rk5 rc5) S I (.slice none 0 0) (slV g n) (.slice none 0 0) := by rw [hw6]; exact heap_alloc_new _ _
    have hb45 : Below w4.heap.size w4 w5 := HD4.out.trans hb5
    have hr6 := (HROW4.out.below hb45).below hb6
    have hp6 : IsPrg w6 p (.agg #[.slice na5 nk5 nc5, .slice ra5 rk5 rc5]) := IsPrg.below ⟨_, _, rfl, hn5, hr5⟩ hb6
    rw [HN.out] at hM6
    have HFI := hide (fill_any w5.heap.size p _ _ g S I w6 hM6 hp6 HCK.out hr6 HS.out hS4 (by rw [HII.out, HQ.out]) (by omega))
    rw [hw6] at HFI
    have HW6 := hide hw6
    have HB46 := hide (HW4.out.trans ((hb45.trans (hb6.mono hb45.size)).mono HW4.out.size))
    have hz5 : w.heap.size ≤ w5.heap.size := Nat.le_trans HW4.out.size hb45.size
    clear hw6 hM6 hr6 hp6 hb45 hb5 hb6 hn5 hr5 HCO g0 g1
    go_wp2_with fail
    refine HFI.out.mono ?_
    rintro e w7 ⟨rfl, gN, gS, lo, uN, uS, hm, ⟨⟨hu1, hu2⟩, ht1, ht2⟩, ⟨hpr, hro⟩, hold, hsz, ho1, ho2, ho3⟩
    rw [← HW6.out] at hold hsz ho1 ho2 ho3
    have HB7 : Hid (Below w.heap.size w w7) := by
      refine HB46.out.trans ⟨ho1, ho2, ho3, hsz, fun k hk => hold k ?_ ?_⟩
      · have := HB46.out.size; omega
      · omega
    have HMA : Hid (IsMach w7 w5.heap.size p) := by
      rw [HII.out, HQ.out, HS.out] at hm ht1 ht2
      rw [HS.out] at hu1 hu2
      exact ⟨_, _, g, gN, gS, lo, uN, uS, hm, ⟨⟨hu1, hu2⟩, ht1, ht2⟩, hpr, hro⟩
    clear hm ht1 ht2 hpr hro hold HFI
    go_wp2_with fail
    refine bodyPost_ret (results_tmp2 rfl _ _ _) rfl ?_
    refine ⟨HB7.out, ?_⟩
    rw [if_pos ⟨by rw [← HQ.out]; omega, by rw [← HS.out]; exact hS4⟩]
    exact ⟨w5.heap.size, rfl, hz5, HMA.out⟩
  · rw [if_neg hS4]
    go_wp2_with fail
    refine bodyPost_ret (results_tmp2 rfl _ _ _) rfl ?_
    exact ⟨HW4.out, by rw [if_neg (by rw [← HS.out]; omega)]; rfl⟩
end
section
namespace Rf
open Go.RowKit
def refused (p : Ld.Prg) : Bool := decide (4096 < Mc.total (Mc.parts p)) || decide (6 < (Ld.kindL p.names 1).length)
def much (p : Ld.Prg) (most : Nat) : Bool := !refused p && (decide (most < Mc.total (Mc.parts p)) || decide (4 < (Ld.kindL p.names 1).length))
set_option maxHeartbeats 8000000 in
set_option maxRecDepth 100000 in
theorem great_any (p : Ld.Prg) (v : Value) (most : Nat) (w : World) (h : IsRPrg w p v) (hL : RLaid w) (hck : Ld.check p = none) :
    Calls Tryz.prog 29 #[v, .int .i64 (most : Int)] w fun e w' => e = .returned (.tuple #[.bool (refused p), .bool (much p most)]) ∧ Below w.heap.size w w' := by
  have HCK := hide hck
  have HRP := hide h
  have hqle : (Ld.kindL p.names 1).length ≤ 12 := Nat.le_trans (Ld.placesTo_le _ _ _) (Ld.check_names p hck).1
  obtain ⟨nv, rv, rfl, hn, hr⟩ := h
  have HNA := hide hn
  obtain ⟨na, nc, rfl, _⟩ := hn.slice
  obtain ⟨ra, rc, rfl, _⟩ := hr.slice
  obtain ⟨n, hnn⟩ : ∃ n, n = p.names.length := ⟨_, rfl⟩
  obtain ⟨m, hmm⟩ : ∃ m, m = p.rungs.length := ⟨_, rfl⟩
  obtain ⟨q, hqq⟩ : ∃ q, q = (Ld.kindL p.names 1).length := ⟨_, rfl⟩
  have h12 : n ≤ 12 := by rw [hnn]; exact (Ld.check_names p hck).1
  have HN := hide hnn
  have HQ := hide hqq
  rw [← hqq] at hqle
  rw [← hnn] at HRP HNA ⊢
  rw [← hmm] at HRP ⊢
  obtain ⟨wA, hwA⟩ : ∃ wA, wA = w.alloc (.cells #[.slice na n nc, .slice ra m rc] 45) := ⟨_, rfl⟩
  have hbA : Below w.heap.size w wA := by rw [hwA]; exact (Below.refl _ _).alloc (Nat.le_refl _) _
  have hsA : wA.heap.size = w.heap.size + 1 := by rw [hwA]; simp
  have hA : wA.heap[w.heap.size]? = some (.cells #[.slice na n nc, .slice ra m rc] 45 (0, 0)) := by rw [hwA]; exact heap_alloc_new _ _
  have HX : Hid (∀ W, Below wA.heap.size wA W → (W.cell? ⟨w.heap.size, 0, none⟩ = some (.slice na n nc) ∧ W.cell? ⟨w.heap.size, 1, none⟩ = some (.slice ra m rc)) ∧ Below w.heap.size w W) := fun W hW => by
    have e0 := (hW.block w.heap.size (by omega)).trans hA
    exact ⟨⟨by rw [Lib.cell_of_heap e0]; rfl, by rw [Lib.cell_of_heap e0]; rfl⟩, hbA.trans (hW.mono hbA.size)⟩
  have HPA := hide (Parts_any p _ wA (HRP.out.below hbA) (hL.below hbA) hck)
  have HKI : Hid (∀ W, Below wA.heap.size wA W → Calls Tryz.prog 72 #[.agg #[.slice na n nc, .slice ra m rc], .int .i64 1] W fun e w' => ∃ v, e = .returned v ∧ w'.ownsRow W.heap.size 3 1 v q ((Ld.kindL p.names 1).map intV) ∧ Below W.heap.size W w') := fun W hW => by
    rw [HQ.out]
    exact rKind_any p.names _ _ 1 W (HNA.out.below (HX.out W hW).2) ⟨_, _, _, rfl⟩
  have HCT := hide (capT_all p hck)
  rw [hwA] at HPA
  rw [← hnn] at HPA HCT
  have HWA := hide hwA
  clear hn hr hnn hmm hqq hwA hbA hA hck hL hsA
  go_enter Tryz.func29, Tryz.ntmps29
  go_wp2_with fail
  refine HPA.out.mono ?_
  rintro e w2 ⟨ev, rfl, hev, hb2⟩
  rw [← HWA.out] at hev hb2
  have HB2 := hide hb2
  have HEV := hide hev
  obtain ⟨ea, ec, rfl⟩ := own_slice hev
  clear hev hb2 HPA
  go_wp2_with fail
  go_loopw [6, 7] (fun nv i wr => ∃ k : Nat, k ≤ n ∧ i = .int .i64 (k : Int) ∧ nv = .int .i64 (capT p k : Int) ∧ Hid (Below w2.heap.size w2 wr)) (fun _ i _ => n - (intOf i).toNat)
  case atStart => exact ⟨0, Nat.zero_le _, rfl, by simp [capT], Below.refl _ _⟩
  case round =>
    obtain ⟨k, hk, rfl, rfl, HB⟩ := hrel
    by_cases hlt : k < n
    · have hkl : k < p.names.length := by rw [← HN.out]; exact hlt
      have hkp : k < (partsL p).length := by rw [partsL_len]; exact hkl
      obtain ⟨ge, rfl, _, hec, _, ce⟩ := own_int (by have h := own_below HEV.out HB.out; rw [HN.out, ← partsL_len] at h; exact h) hkp
      have hpk := partsL_at p k hkl
      rw [List.getElem?_eq_getElem hkp] at hpk
      have hpk := Option.some.inj hpk
      rw [hpk] at ce
      have hp8 := part_le p HCK.out k hkl
      have HSU : Hid (capT p (k + 1) = if 0 < part p k ∧ capT p k ≤ 4096 then capT p k * part p k else capT p k) := rfl
      have hec' : n ≤ ec := by rw [HN.out, ← partsL_len]; exact hec
      generalize part p k = pk at *
      generalize capT p k = ck at *
      clear hec
      have hki : (k : Int) < (n : Int) := by omega
      by_cases hc : ck ≤ 4096
      · have hci : (ck : Int) ≤ 4096 := by omega
        by_cases h0 : pk = 0
        · subst h0
          have HS0 : Hid (capT p (k + 1) = ck) := by show _ = _; rw [HSU.out, if_neg (by omega)]
          go_wp2_with fail
          go_roundw
          case rel => exact ⟨k + 1, by omega, by go_num, by rw [HS0.out], HB.out⟩
          case measure => simp [intOf]; omega
        · have hpi : (0 : Int) < (pk : Int) := by omega
          have HS0 : Hid (capT p (k + 1) = ck * pk) := by show _ = _; rw [HSU.out, if_pos ⟨by omega, hc⟩]
          have h9 : ck * pk ≤ 4096 * 8 := Nat.mul_le_mul hc hp8
          obtain ⟨t, ht⟩ : ∃ t : Nat, t = ck * pk := ⟨_, rfl⟩
          have hti : (ck : Int) * (pk : Int) = (t : Int) := by rw [ht]; simp
          rw [← ht] at h9 HS0
          clear ht
          go_wp2_with fail
          go_roundw
          case rel => exact ⟨k + 1, by omega, by go_num, by rw [HS0.out], HB.out⟩
          case measure => simp [intOf]; omega
      · have hci : ¬ (ck : Int) ≤ 4096 := by omega
        have HS0 : Hid (capT p (k + 1) = ck) := by show _ = _; rw [HSU.out, if_neg (by omega)]
        by_cases h0 : pk = 0
        · subst h0
          go_wp2_with fail
          go_roundw
          case rel => exact ⟨k + 1, by omega, by go_num, by rw [HS0.out], HB.out⟩
          case measure => simp [intOf]; omega
        · have hpi : (0 : Int) < (pk : Int) := by omega
          go_wp2_with fail
          go_roundw
          case rel => exact ⟨k + 1, by omega, by go_num, by rw [HS0.out], HB.out⟩
          case measure => simp [intOf]; omega
    · obtain rfl : k = n := by omega
      have HB3 : Hid (Below wA.heap.size wA wr) := then_ HB2.out HB.out
      obtain ⟨⟨c0, c1⟩, hbw⟩ := HX.out wr HB3.out
      rcases HCT.out with ⟨h3, h4⟩ | ⟨h3, h4, h5⟩
      · have HRE : Hid (refused p = decide (6 < q)) := by show _ = _; unfold refused; rw [← h4, ← HQ.out, decide_eq_false (by omega : ¬ 4096 < capT p k)]; rfl
        have HMU : Hid (much p most = (!decide (6 < q) && (decide (most < capT p k) || decide (4 < q)))) := by show _ = _; unfold much; rw [HRE.out, ← h4, ← HQ.out]
        have HK1 := hide (HKI.out wr HB3.out)
        have g1 : ¬ (4096 : Int) < (capT p k : Int) := by omega
        generalize capT p k = ck at *
        clear h4 hbw HCT
        go_wp2_with fail
        refine HK1.out.mono ?_
        rintro e w3 ⟨kv, rfl, hown, hb3⟩
        obtain ⟨ka, kc, rfl⟩ := own_slice hown
        have HB4 : Hid (Below wA.heap.size wA w3) := then_ HB3.out hb3
        obtain ⟨⟨d0, d1⟩, hbw3⟩ := HX.out w3 HB4.out
        have HBW3 := hide hbw3
        have HK2 := hide (HKI.out w3 HB4.out)
        clear hown hb3 hbw3 c0 c1 HK1
        by_cases h6 : 6 < q
        · have h6i : (6 : Int) < (q : Int) := by omega
          have HR : Hid (refused p = true ∧ much p most = false) := ⟨by rw [HRE.out]; simpa using h6, by rw [HMU.out]; simp [h6]⟩
          go_wp2_with fail
          refine bodyPost_ret (results_tmp2 rfl _ _ _) rfl ?_
          exact ⟨by rw [HR.out.1, HR.out.2]; first | rfl | (simp [h6i]; omega) | simp [h6i], HBW3.out⟩
        · have h6i : ¬ (6 : Int) < (q : Int) := by omega
          by_cases hm : most < ck
          · have hmi : (most : Int) < (ck : Int) := by omega
            have HR : Hid (refused p = false ∧ much p most = true) := ⟨by rw [HRE.out]; simpa using h6, by rw [HMU.out]; simp [h6, hm]⟩
            go_wp2_with fail
            refine bodyPost_ret (results_tmp2 rfl _ _ _) rfl ?_
            exact ⟨by rw [HR.out.1, HR.out.2]; first | rfl | (simp [h6i]; omega) | simp [h6i], HBW3.out⟩
          · have hmi : ¬ (most : Int) < (ck : Int) := by omega
            have HR : Hid (refused p = false ∧ much p most = decide (4 < q)) := ⟨by rw [HRE.out]; simpa using h6, by rw [HMU.out]; simp [h6, hm]⟩
            go_wp2_with fail
            refine HK2.out.mono ?_
            rintro e w4 ⟨kv, rfl, hown, hb4⟩
            obtain ⟨ka2, kc2, rfl⟩ := own_slice hown
            have HBW4 : Hid (Below w.heap.size w w4) := then_ HBW3.out hb4
            clear hown hb4 HK2
            by_cases h44 : 4 < q
            · have h4i : (4 : Int) < (q : Int) := by omega
              go_wp2_with fail
              refine bodyPost_ret (results_tmp2 rfl _ _ _) rfl ?_
              exact ⟨by rw [HR.out.1, HR.out.2]; first | rfl | (simp [h44]; omega) | simp [h44], HBW4.out⟩
            · have h4i : ¬ (4 : Int) < (q : Int) := by omega
              go_wp2_with fail
              refine bodyPost_ret (results_tmp2 rfl _ _ _) rfl ?_
              exact ⟨by rw [HR.out.1, HR.out.2]; first | rfl | (simp [h44]; omega) | simp [h44], HBW4.out⟩
      · have HR : Hid (refused p = true ∧ much p most = false) := by
          have h1 : refused p = true := by unfold refused; simp [h4]
          exact ⟨h1, by unfold much; rw [h1]; rfl⟩
        have g1 : (4096 : Int) < (capT p k : Int) := by omega
        have HBW := hide hbw
        generalize capT p k = ck at *
        clear h4 hbw HCT
        go_wp2_with fail
        refine bodyPost_ret (results_tmp2 rfl _ _ _) rfl ?_
        exact ⟨by rw [HR.out.1, HR.out.2]; first | rfl | (simp [h6i]; omega) | simp [h6i], HBW.out⟩
end Rf
end
section
open Go.RowKit
namespace Rf
theorem ptrNeqM (w : World) (a : Addr) : (binOp BinOp.neq 22 (.pointer (some a)) (.pointer none)).run Tryz.prog w = .ok (.bool true) w := by kernel_rfl
theorem ref_lim (p : Ld.Prg) (h : refused p = true) : ¬ ((Ld.kindL p.names 1).length ≤ 6 ∧ Mc.total (Mc.parts p) ≤ 4096) := by
  unfold refused at h
  simp only [Bool.or_eq_true, decide_eq_true_eq] at h
  omega
theorem ref_ok (p : Ld.Prg) (most : Nat) (h1 : refused p = false) (h2 : much p most = false) : ((Ld.kindL p.names 1).length ≤ 6 ∧ Mc.total (Mc.parts p) ≤ 4096) ∧ (Ld.kindL p.names 1).length ≤ 4 ∧ Mc.total (Mc.parts p) ≤ most := by
  unfold much at h2
  rw [h1] at h2
  unfold refused at h1
  simp only [Bool.or_eq_false_iff, decide_eq_false_iff_not, Bool.not_false, Bool.true_and] at h1 h2
  omega
end Rf
end
section
open Go.RowKit
namespace Rf
def Machs (s : ByteArray) (most : Nat) (w : World) (e : Ending) (w' : World) : Prop := Below w.heap.size w w' ∧ (e = .returned (.tuple #[.pointer none, .pointer none, .bool false]) ∨
  ∃ p bm bx, e = .returned (.tuple #[.pointer (some ⟨bm, 0, none⟩), .pointer (some ⟨bx, 0, none⟩), .bool true]) ∧ Ld.parse s.data.toList = .inr p ∧ IsMach w' bm p ∧ IsRMach w' bx p ∧ Ld.check p = none ∧ ((Ld.kindL p.names 1).length ≤ 6 ∧ Mc.total (Mc.parts p) ≤ 4096) ∧ (Ld.kindL p.names 1).length ≤ 4 ∧ Mc.total (Mc.parts p) ≤ most)
set_option maxHeartbeats 16000000 in
set_option maxRecDepth 100000 in
theorem machines_of (hbo : ∀ (s : ByteArray) (w : World), s.size ≤ maxLen → Laid w → PLaid w → Calls Tryz.prog 28 #[.string s] w (Sl.Both s w)) (s : ByteArray) (most : Nat) (w : World) (hs : s.size ≤ maxLen) (hL : Laid w) (hP : PLaid w) :
    Calls Tryz.prog 8 #[.string s, .int .i64 (most : Int)] w (Machs s most w) := by
  have HBO := hide (hbo s w hs hL hP)
  have HL := hide hL
  have HP := hide hP
  clear hL hP
  go_enter Tryz.func8, Tryz.ntmps8
  go_wp2_with fail
  refine HBO.out.mono ?_
  rintro e w1 ⟨hb1, he⟩
  clear HBO
  rcases he with rfl | ⟨p, v, uv, rfl, hpp, hv, hu, hck⟩
  · have HB1 := hide (((hb1.alloc hb1.size (.cells #[.slice none 0 0, .slice none 0 0] 83))).alloc (by have := hb1.size; simp; omega) (.cells #[.slice none 0 0, .slice none 0 0] 45))
    clear hb1
    go_wp2_with fail
    refine bodyPost_ret (results_tmp3 rfl _ _ _) rfl ?_
    exact ⟨HB1.out, .inl rfl⟩
  · have HCK := hide hck
    have HPP := hide hpp
    have HV := hide hv
    have HUV := hide hu
    have HB1 := hide hb1
    obtain ⟨nv, rv, rfl, hn, hr⟩ := hv
    obtain ⟨na, nc, rfl, _⟩ := hn.slice
    obtain ⟨ra, rc, rfl, _⟩ := hr.slice
    obtain ⟨nu, ru, rfl, hnu, hru⟩ := hu
    obtain ⟨ua, uc, rfl, _⟩ := hnu.slice
    obtain ⟨ta, tc, rfl, _⟩ := hru.slice
    obtain ⟨n, hnn⟩ : ∃ n, n = p.names.length := ⟨_, rfl⟩
    obtain ⟨m, hmm⟩ : ∃ m, m = p.rungs.length := ⟨_, rfl⟩
    rw [← hnn] at HV HUV ⊢
    rw [← hmm] at HV HUV ⊢
    clear hn hr hnu hru hnn hmm hck hpp
    obtain ⟨wA, hwA⟩ : ∃ wA, wA = (w1.alloc (.cells #[.slice na n nc, .slice ra m rc] 83)).alloc (.cells #[.slice ua n uc, .slice ta m tc] 45) := ⟨_, rfl⟩
    have hbA : Below w1.heap.size w1 wA := by rw [hwA]; exact ((Below.refl _ _).alloc (Nat.le_refl _) _).alloc (by simp) _
    have hsA : wA.heap.size = w1.heap.size + 1 + 1 := by rw [hwA]; simp
    have hA0 : wA.heap[w1.heap.size]? = some (.cells #[.slice na n nc, .slice ra m rc] 83 (0, 0)) := by rw [hwA]; exact (Below.heap_alloc _ _ _ (by simp)).trans (heap_alloc_new _ _)
    have hA1 : wA.heap[w1.heap.size + 1]? = some (.cells #[.slice ua n uc, .slice ta m tc] 45 (0, 0)) := by
      rw [hwA]
      have := heap_alloc_new (w1.alloc (.cells #[.slice na n nc, .slice ra m rc] 83)) (.cells #[.slice ua n uc, .slice ta m tc] 45)
      rw [World.size_alloc] at this
      exact this
    have HX : Hid (∀ W, Below wA.heap.size wA W → (W.cell? ⟨w1.heap.size, 0, none⟩ = some (.slice na n nc) ∧ W.cell? ⟨w1.heap.size, 1, none⟩ = some (.slice ra m rc)) ∧ (W.cell? ⟨w1.heap.size + 1, 0, none⟩ = some (.slice ua n uc) ∧ W.cell? ⟨w1.heap.size + 1, 1, none⟩ = some (.slice ta m tc)) ∧ Below w1.heap.size w1 W ∧ Below w.heap.size w W) := by
      intro W hW
      have e0 := (hW.block w1.heap.size (by omega)).trans hA0
      have e1 := (hW.block (w1.heap.size + 1) (by omega)).trans hA1
      have h1 : Below w1.heap.size w1 W := hbA.trans (hW.mono hbA.size)
      exact ⟨⟨by rw [Lib.cell_of_heap e0]; rfl, by rw [Lib.cell_of_heap e0]; rfl⟩, ⟨by rw [Lib.cell_of_heap e1]; rfl, by rw [Lib.cell_of_heap e1]; rfl⟩, h1, HB1.out.trans (h1.mono HB1.out.size)⟩
    have HGR := hide (great_any p _ most wA (HUV.out.below hbA) (HP.out.below (HX.out wA (Below.refl _ _)).2.2.2).r HCK.out)
    rw [hwA] at HGR
    have HWA := hide hwA
    clear hwA hbA hA0 hA1 hb1 hsA
    go_wp2_with fail
    refine HGR.out.mono ?_
    rintro e w2 ⟨rfl, hb2⟩
    rw [← HWA.out] at hb2
    have HB2 := hide hb2
    obtain ⟨⟨d0, d1⟩, ⟨d2, d3⟩, hd1, hdw⟩ := HX.out w2 hb2
    have HDW := hide hdw
    have HD1 := hide hd1
    clear hb2 HGR hd1 hdw
    by_cases hmr : (refused p || much p most) = true
    · by_cases hre : refused p = true
      · rw [hre]
        go_wp2_with fail
        refine bodyPost_ret (results_tmp3 rfl _ _ _) rfl ?_
        exact ⟨HDW.out, .inl rfl⟩
      have hre : refused p = false := by simpa using hre
      have hmu : much p most = true := by rw [hre] at hmr; simpa using hmr
      rw [hre, hmu]
      go_wp2_with fail
      refine bodyPost_ret (results_tmp3 rfl _ _ _) rfl ?_
      exact ⟨HDW.out, .inl rfl⟩
    have hmr : refused p = false ∧ much p most = false := by simpa using hmr
    obtain ⟨hre, hmu⟩ := hmr
    have HOF := hide (Of_any p _ w2 (HV.out.below HD1.out) HCK.out)
    have HOK := hide (ref_ok p most hre hmu)
    rw [hre, hmu]
    clear hre hmu
    go_wp2_with fail
    refine HOF.out.mono ?_
    rintro e w3 ⟨hb3, he⟩
    rw [if_pos HOK.out.1] at he
    obtain ⟨bm, rfl, _, hmach⟩ := he
    have HMA := hide hmach
    have HB3 : Hid (Below wA.heap.size wA w3) := HB2.out.trans (hb3.mono HB2.out.size)
    obtain ⟨⟨e0, e1⟩, ⟨e2, e3⟩, he1, hew⟩ := HX.out w3 HB3.out
    have HRM := hide (RMachOf_any p _ w3 (HUV.out.below he1) (HP.out.below hew).r HCK.out HOK.out.1.1 HOK.out.1.2)
    have HEW := hide hew
    clear hb3 HOF d0 d1 d2 d3 he1 hew hmach
    go_wp2_with fail
    refine HRM.out.mono ?_
    rintro e w4 ⟨hb4, bx, rfl, hrm⟩
    have HB4 := hide (HEW.out.trans (hb4.mono HEW.out.size))
    have HM4 := hide (HMA.out.below hb4)
    have HR4 := hide hrm
    clear hb4 hrm HRM HMA e0 e1 e2 e3
    go_wp2_with fail
    refine bodyPost_ret (results_tmp3 rfl _ _ _) rfl ?_
    exact ⟨HB4.out, .inr ⟨p, bm, bx, rfl, HPP.out, HM4.out, HR4.out, HCK.out, HOK.out.1, HOK.out.2⟩⟩
end Rf
end
section
namespace ErAs
open Go.RowKit
/-- an error that the program hands back, its Errno and its place -/
def ErrAt (er : Value) (n pl : Int) (w : World) : Prop := (er = .iface 40 (.int .i64 n) ∧ pl = -1) ∨ ∃ a, er = .iface 227 (.pointer (some ⟨a, 0, none⟩)) ∧ w.cell? ⟨a, 0, none⟩ = some (.int .i64 n) ∧ w.cell? ⟨a, 1, none⟩ = some (.int .i64 pl)
theorem ErrAt.finds {er : Value} {n pl : Int} {w : World} (h : ErrAt er n pl w) : Finds er n w := by
  rcases h with ⟨h, _⟩ | ⟨a, h, h1, _⟩
  · exact .inl h
  · exact .inr ⟨_, h, h1⟩
set_option maxHeartbeats 2000000 in
set_option maxRecDepth 100000 in
theorem Place_any (er : Value) (n pl : Int) (w : World) (hg : Door w) (hf : ErrAt er n pl w) :
    Calls Tryz.prog 95 #[er] w fun e w' => e = .returned (.tuple #[.int .i64 n, .int .i64 pl]) ∧ Below w.heap.size w w' := by
  have HC := hide (Tell_any er n w hg hf.finds)
  clear hg
  rcases hf with ⟨rfl, rfl⟩ | ⟨a, rfl, h0, h1⟩
  · have sE := atE
    have sU := unE
    go_enter Tryz.func95, Tryz.ntmps95
    go_wp2_with fail
    refine HC.out.mono ?_
    rintro e w1 ⟨rfl, hb⟩
    have HB := hide hb
    clear hb HC
    go_wp2_with fail
    refine wp_loop_rounds 1 ?_
    rw [rounds_succ]
    go_wp2_with fail
    refine bodyPost_ret_by (v := .tuple #[.int .i64 n, .int .i64 (-1)]) ?_ rfl ⟨rfl, HB.out⟩
    simp [results, Tryz.results95, go_sem]
  · have sA := atA
    go_enter Tryz.func95, Tryz.ntmps95
    go_wp2_with fail
    refine HC.out.mono ?_
    rintro e w1 ⟨rfl, hb⟩
    have HB := hide hb
    have h1' := (hb.cell (World.block_lt_of_cell? _ _ h1)).trans h1
    clear hb HC h0 h1
    go_wp2_with fail
    refine wp_loop_rounds 1 ?_
    rw [rounds_succ]
    go_wp2_with fail
    go_quiet (fail)
    go_wp2_with fail
    refine bodyPost_ret_by (v := .tuple #[.int .i64 n, .int .i64 pl]) ?_ rfl ⟨rfl, ⟨HB.out.os, HB.out.tape, HB.out.output, HB.out.size, HB.out.block⟩⟩
    simp [results, Tryz.results95, go_sem]
end ErAs
end
section
open Go.RowKit ErAs
set_option maxHeartbeats 2000000 in
set_option maxRecDepth 100000 in
theorem at_any (er : Value) (n pl : Int) (w : World) (hg : Door w) (hf : ErrAt er n pl w) :
    Calls Tryz.prog 42 #[er, faultV n pl] w fun e w' => e = .returned (.bool true) ∧ Below w.heap.size w w' := by
  obtain ⟨w1, hw1⟩ : ∃ w1, w1 = w.alloc (.cells #[.int .i64 n, .int .i64 pl] 93) := ⟨_, rfl⟩
  have hb1 : Below w.heap.size w w1 := by rw [hw1]; exact (Below.refl _ _).alloc (Nat.le_refl _) _
  have hg1 : Door w1 := (hb1.cell (World.block_lt_of_cell? _ _ hg)).trans hg
  have hf1 : ErrAt er n pl w1 := by
    rcases hf with h | ⟨a, h, h1, h2⟩
    · exact .inl h
    · exact .inr ⟨a, h, (hb1.cell (World.block_lt_of_cell? _ _ h1)).trans h1, (hb1.cell (World.block_lt_of_cell? _ _ h2)).trans h2⟩
  have HC := hide (Place_any er n pl w1 hg1 hf1)
  have hh : w1.heap[w.heap.size]? = some (.cells #[.int .i64 n, .int .i64 pl] 93 (0, 0)) := by rw [hw1]; exact heap_alloc_new _ _
  have HH := hide hh
  have HS1 : Hid (w1.heap.size = w.heap.size + 1) := by show _ = _; rw [hw1]; simp
  obtain ⟨te, ve, hte⟩ : ∃ te ve, er = .iface te ve := by
    rcases hf with ⟨rfl, _⟩ | ⟨q, rfl, _⟩
    · exact ⟨_, _, rfl⟩
    · exact ⟨_, _, rfl⟩
  subst hte
  have HB1 := hide hb1
  have HW1 := hide hw1
  rw [hw1] at HC
  unfold faultV
  clear hg hf hg1 hf1 hb1 hw1 hh
  go_enter Tryz.func42, Tryz.ntmps42
  go_wp2_with fail
  refine HC.out.mono ?_
  rintro e w2 ⟨rfl, hb⟩
  rw [← HW1.out] at hb
  have c0 : w2.cell? ⟨w.heap.size, 0, none⟩ = some (.int .i64 n) := by rw [hb.cell (p := ⟨w.heap.size, 0, none⟩) (by rw [HS1.out]; simp), Lib.cell_of_heap HH.out]; rfl
  have c1 : w2.cell? ⟨w.heap.size, 1, none⟩ = some (.int .i64 pl) := by rw [hb.cell (p := ⟨w.heap.size, 1, none⟩) (by rw [HS1.out]; simp), Lib.cell_of_heap HH.out]; rfl
  have HB := hide hb
  clear hb HC
  go_wp2_with fail
  go_ret
  exact ⟨ret_bool (by simp), HB1.out.trans (HB.out.mono HB1.out.size)⟩
end
section
open Go.RowKit
namespace Sl
set_option maxHeartbeats 2000000 in
theorem lbare_any (n : Int) (w : World) (hg : ErAs.Door w) : Calls Tryz.prog 12 #[.iface 40 (.int .i64 n), .int .i64 n] w fun e w' => e = .returned (.bool true) ∧ Below w.heap.size w w' := by
  have HBA := hide (rbare_any n w)
  have HG := hide hg
  clear hg
  go_enter Tryz.func12, Tryz.ntmps12
  go_wp2_with fail
  refine HBA.out.mono ?_
  rintro e w1 ⟨rfl, hb1⟩
  have HAT := hide (at_any (.iface 40 (.int .i64 n)) n (-1) w1 ((hb1.cell (World.block_lt_of_cell? _ _ HG.out)).trans HG.out) (.inl ⟨rfl, rfl⟩))
  have HB1 := hide hb1
  unfold faultV at HAT ⊢
  clear hb1 HBA
  go_wp2_with fail
  refine HAT.out.mono ?_
  rintro e w2 ⟨rfl, hb2⟩
  have HB2 := hide (HB1.out.trans (hb2.mono HB1.out.size))
  clear hb2 HAT
  go_wp2_with fail
  go_ret
  exact ⟨rfl, HB2.out⟩
theorem own_ints {W : World} {q : Nat} {v : Value} {l : List Nat} (h : W.ownsRow q 3 1 v l.length (l.map intV)) (hl : ∀ i, i ∈ l → i ≤ 1000) : Ints W v (l.map fun i : Nat => (i : Int)) := by
  rcases h.2 with ⟨rfl, h0⟩ | ⟨g, cap, cur, rfl, _, hcur, hcap, _, _, htk⟩
  · exact .inl ⟨by rw [List.length_eq_zero_iff.1 h0]; rfl, _, _, rfl⟩
  · refine .inr ⟨g, 0, cap, by simp, by simpa using hcap, fun k x hx => ?_⟩
    rw [List.getElem?_map] at hx
    cases hk : l[k]? with
    | none => rw [hk] at hx; cases hx
    | some i =>
      rw [hk] at hx
      simp only [Option.map_some, Option.some.injEq] at hx
      subst hx
      have := hl i (List.mem_of_getElem? hk)
      exact ⟨by rw [Nat.zero_add]; exact row_cell hcur htk (by rw [List.getElem?_map, hk]; rfl), by unfold I64; omega⟩
end Sl
end
section
open Go.RowKit
set_option maxHeartbeats 2000000 in
set_option maxRecDepth 100000 in
theorem lsameI_any (l : List Int) (u v : Value) (w : World) (hu : Ints w u l) (hv : Ints w v l) (hl : l.length ≤ 1000000) :
    Calls Tryz.prog 17 #[u, v] w fun e w' => e = .returned (.bool true) ∧ Below w.heap.size w w' := by
  have HU := hide hu
  have HV := hide hv
  obtain ⟨n, hn⟩ : ∃ n, n = l.length := ⟨_, rfl⟩
  have HN := hide hn
  obtain ⟨ua, uc, rfl⟩ := hu.slice
  obtain ⟨va, vc, rfl⟩ := hv.slice
  rw [← hn] at HU HV hl ⊢
  clear hu hv hn
  go_enter Tryz.func17, Tryz.ntmps17
  go_wp2_with fail
  go_loopw [5] (fun i wr => ∃ k : Nat, k ≤ n ∧ i = .int .i64 (k : Int) ∧ Hid (Below w.heap.size w wr)) (fun i _ => n - (intOf i).toNat)
  case atStart => exact ⟨0, Nat.zero_le _, rfl, Below.refl _ _⟩
  case round =>
    obtain ⟨k, hk, rfl, HB⟩ := hrel
    by_cases hlt : k < n
    · have hkl : k < l.length := by rw [← HN.out]; exact hlt
      have hx := List.getElem?_eq_getElem hkl
      obtain ⟨g1, o1, e1, d1⟩ := (HU.out.below HB.out).cell k _ hx
      obtain ⟨g2, o2, e2, d2⟩ := (HV.out.below HB.out).cell k _ hx
      subst e1
      subst e2
      generalize l[k] = x at *
      clear hx
      go_wp2_with fail
      go_quiet (fail)
      go_wp2_with fail
      go_roundw
      case rel => exact ⟨k + 1, by omega, by go_num, HB.out.trans ⟨rfl, rfl, rfl, Nat.le_refl _, fun _ _ => rfl⟩⟩
      case measure => simp [intOf]; omega
    · have hkn : k = n := by omega
      subst hkn
      go_wp2_with fail
      go_ret
      exact ⟨rfl, HB.out⟩
end
section
open Go.RowKit
theorem Bools.len {w : World} {v : Value} {l : List Bool} (h : Bools w v l) : l.length ≤ 1000000 := by obtain ⟨_, _, _, h, _⟩ := h; exact h
theorem Bools.slice {w : World} {v : Value} {l : List Bool} (h : Bools w v l) : ∃ a c, v = .slice a l.length c := by obtain ⟨a, c, h, _⟩ := h; exact ⟨a, c, h⟩
end
section
open Go.RowKit
set_option maxHeartbeats 2000000 in
set_option maxRecDepth 100000 in
theorem lsameB_any (l : List Bool) (u v : Value) (w : World) (hu : Bools w u l) (hv : Bools w v l) :
    Calls Tryz.prog 15 #[u, v] w fun e w' => e = .returned (.bool true) ∧ Below w.heap.size w w' := by
  have HU := hide hu
  have HV := hide hv
  obtain ⟨n, hn⟩ : ∃ n, n = l.length := ⟨_, rfl⟩
  have HN := hide hn
  have hl6 := hu.len
  obtain ⟨ua, uc, rfl⟩ := hu.slice
  obtain ⟨va, vc, rfl⟩ := hv.slice
  rw [← hn] at HU HV hl6 ⊢
  clear hu hv hn
  go_enter Tryz.func15, Tryz.ntmps15
  go_wp2_with fail
  go_loopw [5] (fun i wr => ∃ k : Nat, k ≤ n ∧ i = .int .i64 (k : Int) ∧ Hid (Below w.heap.size w wr)) (fun i _ => n - (intOf i).toNat)
  case atStart => exact ⟨0, Nat.zero_le _, rfl, Below.refl _ _⟩
  case round =>
    obtain ⟨k, hk, rfl, HB⟩ := hrel
    by_cases hlt : k < n
    · have hkl : k < l.length := by rw [← HN.out]; exact hlt
      have hx := List.getElem?_eq_getElem hkl
      obtain ⟨a1, c1, e1, _, b1⟩ := HU.out.below HB.out
      obtain ⟨a2, c2, e2, _, b2⟩ := HV.out.below HB.out
      simp only [Value.slice.injEq] at e1 e2
      obtain ⟨g1, ga1, d1⟩ := b1 k _ hx
      obtain ⟨g2, ga2, d2⟩ := b2 k _ hx
      obtain ⟨e1, _, _⟩ := e1
      obtain ⟨e2, _, _⟩ := e2
      rw [ga1] at e1
      rw [ga2] at e2
      subst e1
      subst e2
      clear b1 b2 ga1 ga2
      generalize l[k] = x at *
      clear hx
      go_wp2_with fail
      go_quiet (fail)
      go_wp2_with fail
      go_roundw
      case rel => exact ⟨k + 1, by omega, by go_num, HB.out.trans ⟨rfl, rfl, rfl, Nat.le_refl _, fun _ _ => rfl⟩⟩
      case measure => simp [intOf]; omega
    · have hkn : k = n := by omega
      subst hkn
      go_wp2_with fail
      go_ret
      exact ⟨rfl, HB.out⟩
end
section
open Go.RowKit
/-- what read comes to: nothing, or one expression in the program's form and in the document's -/
def ReadBothP (w : World) (e : Ending) (w' : World) : Prop :=
  Below w.heap.size w w' ∧ ((e = .returned (.tuple #[.nilIface, .pointer none, .bool false])) ∨ ∃ x v g, e = .returned (.tuple #[v, .pointer (some ⟨g, 0, none⟩), .bool true]) ∧ IsEx (fun _ => True) w' x v ∧ IsRx (fun _ => True) w' x g ∧ x.size ≤ 1000000 ∧ ∃ l, Ex.parse l = .inr x)
set_option maxHeartbeats 2000000 in
set_option maxRecDepth 100000 in
theorem readP_any (s : ByteArray) (w : World) (hs : s.size ≤ maxLen) (hf : Fine w) : Calls Tryz.prog 9 #[.string s] w (ReadBothP w) := by
  have hs' : s.size ≤ maxLen := hs
  unfold maxLen at hs
  by_cases h2 : 1000 < s.size
  · have h2' : (1000 : Int) < (s.size : Int) := by omega
    clear hf
    go_enter Tryz.func9, Tryz.ntmps9
    go_wp2_with fail
    refine bodyPost_ret_by (v := .tuple #[.nilIface, .pointer none, .bool false]) ?_ rfl ⟨Below.refl _ _, .inl rfl⟩
    simp [results, Tryz.results9, go_sem]
  · have h2' : ¬ (1000 : Int) < (s.size : Int) := by omega
    have HR := hide (ExprParse_any s w hs' hf)
    have HP := hide (fun w1 => Parse_any s w1 hs')
    have HSZ := hide (fun x h => Ex.parse_bnd s.data.toList x h)
    obtain ⟨r, hr⟩ : ∃ r, r = Ex.parse s.data.toList := ⟨_, rfl⟩
    have HPR : Hid (∃ l, Ex.parse l = r) := ⟨_, hr.symm⟩
    rw [← hr] at HR HSZ
    have HP2 : Hid (∀ w1, Calls Tryz.prog 33 #[.string s] w1 (Parsed w1 r)) := fun w1 => by have := HP.out w1; rw [← hr] at this; exact this
    clear HP hr
    have HP := HP2
    clear HP2
    clear hf
    match r, HR, HP, HSZ, HPR with
    | .inl (err, none), HR, HP, _, _ =>
      go_enter Tryz.func9, Tryz.ntmps9
      go_wp2_with fail
      refine HR.out.mono ?_
      rintro e w1 ⟨hb, rfl, he⟩
      have heb : ((err : Int) != 0) = true := by simp; omega
      have HB := hide hb
      unfold faultV
      clear hb he HR HP
      go_wp2_with fail
      refine bodyPost_ret_by (v := .tuple #[.nilIface, .pointer none, .bool false]) ?_ rfl ⟨?_, .inl rfl⟩
      · simp [results, Tryz.results9, go_sem]
      · exact HB.out.alloc HB.out.size _
    | .inl (err, some p), HR, HP, _, _ =>
      go_enter Tryz.func9, Tryz.ntmps9
      go_wp2_with fail
      refine HR.out.mono ?_
      rintro e w1 ⟨hb, rfl, he⟩
      have heb : ((err : Int) != 0) = true := by simp; omega
      have HB := hide hb
      unfold faultV
      clear hb he HR HP
      go_wp2_with fail
      refine bodyPost_ret_by (v := .tuple #[.nilIface, .pointer none, .bool false]) ?_ rfl ⟨?_, .inl rfl⟩
      · simp [results, Tryz.results9, go_sem]
      · exact HB.out.alloc HB.out.size _
    | .inr x, HR, HP, HSZ, HPR =>
      have hx := HSZ.out x rfl
      have HXS : Hid (x.size ≤ 1000000) := by show _ ≤ _; omega
      clear hx
      go_enter Tryz.func9, Tryz.ntmps9
      go_wp2_with fail
      refine HR.out.mono ?_
      rintro e w1 ⟨hb, g, rfl, hg⟩
      have HB := hide hb
      have HG := hide hg
      unfold faultV
      clear hb hg HR HSZ
      go_wp2_with fail
      refine (HP.out _).mono ?_
      rintro e w2 ⟨hb2, v, rfl, hv⟩
      have HB2 := hide hb2
      have HV := hide hv
      obtain ⟨tu, yu, hiu⟩ := IsEx.iface _ v hv
      subst hiu
      clear hb2 hv HP
      go_wp2_with fail
      have hb0 : Below w1.heap.size w1 w2 := ((Below.refl _ w1).alloc (Nat.le_refl _) _).trans (HB2.out.mono (by simp))
      refine bodyPost_ret_by (v := .tuple #[.iface tu yu, .pointer (some ⟨g, 0, none⟩), .bool true]) ?_ rfl ⟨HB.out.trans (hb0.mono HB.out.size), .inr ⟨x, _, g, rfl, ?_, HG.out.later hb0, HXS.out, HPR.out⟩⟩
      · simp [results, Tryz.results9, go_sem]
      · exact IsEx.stay (ok := fun g => _ ≤ g) (fun g i u _ hc => hc) (fun _ _ => trivial) x _ HV.out
end
section
namespace Ex
theorem FitP.names : ∀ (D : Nat) (x : Ex), FitP D x → ∀ n, n ∈ x.named true → Nm.name n = true := by
  intro D
  induction D with
  | zero => intro x h; exact absurd h (by simp [FitP])
  | succ D ih =>
    intro x h n hn
    obtain ⟨k, nm, l⟩ := x
    have parts : (k ≠ 2 ∧ k ≠ 3 ∧ k ≠ 4) → ∃ y, y ∈ l ∧ n ∈ y.named true := fun hk => by
      rw [named_of _ _ _ _ hk, List.mem_flatten] at hn
      obtain ⟨t, ht, hnt⟩ := hn
      obtain ⟨y, hy, rfl⟩ := List.mem_map.1 ht
      exact ⟨y, hy, hnt⟩
    unfold FitP at h
    simp only at h
    rcases h with ⟨h1, _, h3⟩ | ⟨h1, h2, h3, _⟩ | ⟨h1, _, y, h3, h4⟩ | ⟨h1, _, _, h4⟩ | ⟨h1, _, _, h4⟩
    · obtain ⟨y, hy, _⟩ := parts (by omega)
      rw [h3] at hy
      simp at hy
    · have : n = nm := by
        have hk : k = 2 ∨ k = 3 ∨ k = 4 := by omega
        rcases hk with rfl | rfl | rfl
        · rw [named2] at hn; simpa using hn
        · rw [named3] at hn; simpa using hn
        · rw [named4] at hn; simpa using hn
      rw [this]; exact h3
    · obtain ⟨z, hz, hnz⟩ := parts (by omega)
      rw [h3] at hz
      simp at hz
      subst hz
      exact ih _ h4 n hnz
    · obtain ⟨z, hz, hnz⟩ := parts (by omega)
      exact ih _ (h4 z hz) n hnz
    · obtain ⟨z, hz, hnz⟩ := parts (by omega)
      rcases h4 z hz with ⟨q1, _, _, q4⟩ | ⟨_, q2⟩
      · obtain ⟨k2, nm2, l2⟩ := z
        simp only at q1 q4
        rw [named_of _ _ _ _ (by omega), List.mem_flatten] at hnz
        obtain ⟨t, ht, hnt⟩ := hnz
        obtain ⟨y, hy, rfl⟩ := List.mem_map.1 ht
        exact ih _ (q4 y hy) n hnt
      · exact ih _ q2 n hnz
theorem parse_names (l : List UInt8) (x : Ex) (h : parse l = .inr x) (n : List UInt8) (hn : n ∈ x.named true) : n ≠ [] := by
  have h1 := FitP.names 21 x (FitW.piece 20 x (parse_fit l x h)) n hn
  obtain ⟨_, c, r, e, _⟩ := name_signs n h1
  rw [e]; simp
end Ex
end
section
open Go.RowKit
theorem ptold_any (nv rv lv : Value) (w : World) (hn : ∃ a n c, nv = .slice a n c) (hr : ∃ a n c, rv = .slice a n c) (hl : ∃ a n c, lv = .slice a n c) :
    Calls Tryz.prog 35 #[.agg #[nv, rv], lv] w fun e w' => e = .returned (.func (.func 87) #[] #[.pointer (some ⟨w.heap.size, 0, none⟩), .pointer (some ⟨w.heap.size + 1, 0, none⟩)]) ∧ w' = (w.alloc (.cells #[nv, rv] 83)).alloc (.cells #[lv] 51) := by
  have hmf : ∀ (fn : Fn) (first cap : Array Value) (w : World), (Instr.makeFunc fn first cap).run Tryz.prog w = .ok (.func fn first cap) w := fun _ _ _ _ => rfl
  obtain ⟨a1, n1, c1, rfl⟩ := hn
  obtain ⟨a2, n2, c2, rfl⟩ := hr
  obtain ⟨a3, n3, c3, rfl⟩ := hl
  go_enter Tryz.func35, Tryz.ntmps35
  go_wp2_with fail
  go_ret
  exact ⟨rfl, rfl⟩
set_option maxHeartbeats 2000000 in
set_option maxRecDepth 100000 in
theorem ptold1_any (ns : List Ld.Nme) (nv rv : Value) (is : List Bool) (gi a b : Nat) (nm : List UInt8) (w : World) (hn : NamesAt w nv ns) (hr : ∃ a n c, rv = .slice a n c) (hlen : is.length = ns.length)
    (h0 : w.cell? ⟨a, 0, none⟩ = some nv) (h1 : w.cell? ⟨a, 1, none⟩ = some rv) (h2 : w.cell? ⟨b, 0, none⟩ = some (.slice (some ⟨gi, 0, none⟩) is.length is.length)) (hi : w.heap[gi]? = some (.cells ⟨is.map boolV⟩ 4 (0, 0))) :
    Calls Tryz.prog 87 #[.string ⟨nm.toArray⟩, .pointer (some ⟨a, 0, none⟩), .pointer (some ⟨b, 0, none⟩)] w fun e w' => e = .returned (.bool (Sc.told ns is nm)) ∧ Below w.heap.size w w' := by
  obtain ⟨ra, rn, rc, rfl⟩ := hr
  have HNU := hide (Number_any ns nv (.slice ra rn rc) nm w hn ⟨_, _, _, rfl⟩)
  obtain ⟨na, nc, rfl, hn1⟩ := hn.slice
  have hlo := Ld.number_lt ns nm
  have hge := Ld.number_ge ns nm
  have HT : Hid (Sc.told ns is nm = (decide (0 ≤ Ld.number ns nm) && is.getD (Ld.number ns nm).toNat false)) := rfl
  have ha : a < w.heap.size := World.block_lt_of_cell? _ _ h0
  have hb : b < w.heap.size := World.block_lt_of_cell? _ _ h2
  have hg : gi < w.heap.size := (Array.getElem?_eq_some_iff.1 hi).1
  have HI := hide hi
  have H2 := hide h2
  generalize Sc.told ns is nm = T at *
  generalize Ld.number ns nm = u at *
  rw [hlen] at H2 h2
  generalize ns.length = m at *
  clear hi hn
  go_enter Tryz.func87, Tryz.ntmps87
  go_wp2_with fail
  refine HNU.out.mono ?_
  rintro e w1 ⟨rfl, hb1⟩
  have HB1 := hide hb1
  have k2 := (hb1.cell (p := ⟨b, 0, none⟩) hb).trans H2.out
  by_cases hu : 0 ≤ u
  · obtain ⟨j, rfl⟩ : ∃ j : Nat, u = (j : Int) := ⟨u.toNat, by omega⟩
    have hj : j < m := by omega
    have k3 : w1.cell? ⟨gi, j, none⟩ = some (.bool (is.getD j false)) := by
      rw [hb1.cell (p := ⟨gi, j, none⟩) hg, Lib.cell_of_heap HI.out]
      simp [boolV, hlen, hj]
    simp only [Int.toNat_natCast] at HT
    generalize is.getD j false = bv at *
    clear hb1 HNU
    go_wp2_with fail
    go_ret
    exact ⟨ret_bool (by rw [HT.out]; simp), HB1.out⟩
  · clear hb1 HNU
    have HD : Hid (decide (0 ≤ u) = false) := by show _ = _; simpa using hu
    go_wp2_with fail
    go_ret
    exact ⟨ret_bool (by rw [HT.out, HD.out]; rfl), HB1.out⟩
/-- the closure that told makes, asked later -/
theorem ptells_told (ns : List Ld.Nme) (nv rv : Value) (is : List Bool) (gi a b : Nat) (w : World) (hn : NamesAt w nv ns) (hr : ∃ a n c, rv = .slice a n c) (hlen : is.length = ns.length)
    (h0 : w.cell? ⟨a, 0, none⟩ = some nv) (h1 : w.cell? ⟨a, 1, none⟩ = some rv) (h2 : w.cell? ⟨b, 0, none⟩ = some (.slice (some ⟨gi, 0, none⟩) is.length is.length)) (hi : w.heap[gi]? = some (.cells ⟨is.map boolV⟩ 4 (0, 0))) :
    E2.Tells (.func (.func 87) #[] #[.pointer (some ⟨a, 0, none⟩), .pointer (some ⟨b, 0, none⟩)]) (Sc.told ns is) w :=
  ⟨87, _, _, rfl, fun _ _ => by kernel_rfl, fun W hW nm => ptold1_any ns nv rv is gi a b nm W (hn.below hW) hr hlen ((hW.cell (p := ⟨a, 0, none⟩) (World.block_lt_of_cell? _ _ h0)).trans h0) ((hW.cell (p := ⟨a, 1, none⟩) (World.block_lt_of_cell? _ _ h1)).trans h1) ((hW.cell (p := ⟨b, 0, none⟩) (World.block_lt_of_cell? _ _ h2)).trans h2) ((hW.block _ (Array.getElem?_eq_some_iff.1 hi).1).trans hi)⟩
end
section
open Go.RowKit
namespace Pr
/-- each name of an expression is one of the program's -/
def has (ns : List Ld.Nme) (x : Ex) : Bool := (ordered (x.named true)).all fun s => decide (0 ≤ Ld.number ns s)
end Pr
set_option maxHeartbeats 2000000 in
set_option maxRecDepth 100000 in
theorem hasNames_any (ok : Nat → Prop) (ns : List Ld.Nme) (nv rv : Value) (x : Ex) (v : Value) (w : World) (hn : NamesAt w nv ns) (hr : ∃ a n c, rv = .slice a n c) (h : IsEx ok w x v) (hlen : x.size ≤ 1000000) :
    Calls Tryz.prog 34 #[.agg #[nv, rv], v] w fun e w' => e = .returned (.bool (Pr.has ns x)) ∧ Below w.heap.size w w' := by
  obtain ⟨tu, yu, rfl⟩ := IsEx.iface x v h
  have HN := hide hn
  have hr2 := hr
  obtain ⟨ra, rn, rc, rfl⟩ := hr
  obtain ⟨w1, hw1⟩ : ∃ w1, w1 = w.alloc (.cells #[nv, .slice ra rn rc] 83) := ⟨_, rfl⟩
  have hb1 : Below w.heap.size w w1 := by rw [hw1]; exact (Below.refl _ _).alloc (Nat.le_refl _) _
  have hB : w1.heap[w.heap.size]? = some (.cells #[nv, .slice ra rn rc] 83 (0, 0)) := by rw [hw1]; exact heap_alloc_new _ _
  have HB := hide hB
  have HNM := hide (Names_any (fun _ => True) x _ w1 (IsEx.stay (Stay.below hb1) (fun g _ => trivial) x _ h) hlen)
  have hz1 : w1.heap.size = w.heap.size + 1 := by rw [hw1]; simp
  rw [hw1] at HNM
  have HW1 := hide hw1
  have HB1 := hide hb1
  obtain ⟨L, hL⟩ : ∃ L, L = ordered (x.named true) := ⟨_, rfl⟩
  have HAS : Hid (Pr.has ns x = L.all fun s => decide (0 ≤ Ld.number ns s)) := by show _ = _; rw [hL]; rfl
  rw [← hL] at HNM
  obtain ⟨na, nc, rfl, _⟩ := hn.slice
  clear hw1 hb1 hB hn h hL
  go_enter Tryz.func34, Tryz.ntmps34
  go_wp2_with fail
  refine HNM.out.mono ?_
  rintro e w2 ⟨sv, rfl, hs, hb2⟩
  rw [← HW1.out] at hb2
  have HS := hide hs
  have HB2 := hide hb2
  have HBW := hide (HB1.out.trans (hb2.mono HB1.out.size))
  obtain ⟨sa, sc, rfl⟩ : ∃ a c, sv = .slice a L.length c := by
    rcases hs.at with ⟨rfl, a, c, rfl⟩ | ⟨g, o, c, rfl, _⟩
    · exact ⟨_, _, rfl⟩
    · exact ⟨_, _, rfl⟩
  have hLl : L.length ≤ 1000000 := by
    rcases hs.at with ⟨rfl, _⟩ | ⟨g, o, c, _, _, h3, _⟩
    · simp
    · exact h3
  clear hs hb2 HNM
  go_wp2_with fail
  go_loopw [10] (fun i wr => ∃ j : Nat, j ≤ L.length ∧ i = .int .i64 (j : Int) ∧ Hid ((L.take j).all (fun s => decide (0 ≤ Ld.number ns s)) = true) ∧ Hid (Below w2.heap.size w2 wr)) (fun i _ => L.length - (intOf i).toNat)
  case atStart => exact ⟨0, Nat.zero_le _, rfl, rfl, Below.refl _ _⟩
  case round =>
    obtain ⟨j, hj, rfl, HT, HBR⟩ := hrel
    have hbw : Below w.heap.size w wr := HBW.out.trans (HBR.out.mono HBW.out.size)
    by_cases hlt : j < L.length
    · have hje := List.getElem?_eq_getElem hlt
      have HTS : Hid ((L.take (j + 1)).all (fun s => decide (0 ≤ Ld.number ns s)) = ((L.take j).all (fun s => decide (0 ≤ Ld.number ns s)) && decide (0 ≤ Ld.number ns L[j]))) := by
        show _ = _
        rw [List.take_succ_eq_append_getElem hlt, List.all_append]
        simp
      have HMN : Hid (Ld.number ns L[j] < 0 → (L.all fun s => decide (0 ≤ Ld.number ns s)) = false) := fun hneg => by
        rw [List.all_eq_false]
        exact ⟨L[j], List.getElem_mem hlt, by simp; omega⟩
      generalize L[j] = nm at *
      obtain ⟨g, o, rfl, hcell⟩ : ∃ g o, sa = some ⟨g, o, none⟩ ∧ wr.cell? ⟨g, o + j, none⟩ = some (.string ⟨nm.toArray⟩) := by
        rcases HS.out with ⟨h0, _⟩ | ⟨g, o, c, h1, _, _, h4⟩
        · have : L = [] := by simpa using h0
          rw [this] at hlt; simp at hlt
        · simp only [Value.slice.injEq] at h1
          have h5 := h4 j (toBA nm) (by rw [List.getElem?_map, hje]; rfl)
          exact ⟨g, o, h1.1, (HBR.out.cell (World.block_lt_of_cell? _ _ h5)).trans h5⟩
      have hcap : L.length ≤ sc := by
        rcases HS.out with ⟨h0, _⟩ | ⟨g', o', c, h1, h2, _⟩
        · have : L = [] := by simpa using h0
          rw [this]; simp
        · simp only [Value.slice.injEq] at h1
          rw [h1.2.2]; simpa using h2
      obtain ⟨b0, b1, _, _⟩ := two_cells ((HBR.out.block _ (by have := HB2.out.size; omega)).trans ((HB2.out.block _ (by omega)).trans HB.out))
      have HNU := hide (Number_any ns _ (.slice ra rn rc) nm wr (HN.out.below hbw) ⟨_, _, _, rfl⟩)
      have hji : (j : Int) < (L.length : Int) := by omega
      generalize Ld.number ns nm = u at *
      clear hje hbw
      go_wp2_with fail
      refine HNU.out.mono ?_
      rintro e w3 ⟨rfl, hb3⟩
      have HB3 := hide hb3
      clear hb3 HNU
      by_cases hu : u < 0
      · have HR := hide (HMN.out hu)
        go_wp2_with fail
        go_ret
        exact ⟨ret_bool (by rw [HAS.out, HR.out]), HBW.out.trans ((HBR.out.trans (HB3.out.mono HBR.out.size)).mono HBW.out.size)⟩
      · have HD : Hid (decide (0 ≤ u) = true) := decide_eq_true (by omega)
        go_wp2_with fail
        exact ⟨⟨j + 1, by omega, by go_num, (by show _ = _; rw [HTS.out, HT.out, HD.out]; rfl), HBR.out.trans (HB3.out.mono HBR.out.size)⟩, by simp [intOf]; omega⟩
    · have hjl : j = L.length := by omega
      have HR : Hid ((L.all fun s => decide (0 ≤ Ld.number ns s)) = true) := by
        have := HT.out
        rw [hjl, List.take_length] at this
        exact this
      subst hjl
      have HE := hide hbw
      clear hbw
      go_wp2_with fail
      go_ret
      exact ⟨ret_bool (by rw [HAS.out, HR.out]), HE.out⟩
end
end Go.Proofs.YtgldbliohpfljaaGreatDoor
