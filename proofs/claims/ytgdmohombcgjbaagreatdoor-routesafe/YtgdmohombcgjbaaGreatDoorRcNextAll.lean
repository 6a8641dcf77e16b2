/-
  The walk of package machine's Of: a machine of a program, in memory. The walks of package prop's told, of the statements' own at, and of their closures. The walk of package prop's hasNames. Plain mathematics: a machine plays as its program does. Package prop's map of places that a search has made: what is found in it, and how it grows. Rows of bools in memory, and what lies behind them. A machine's table, state by state, as it lies in memory.
-/
import Derived.Test.YtgdmohombcgjbaaGreatDoorMcFill
import Derived.Test.YtgdmohombcgjbaaGreatDoorMcOffAll
import Derived.Test.YtgdmohombcgjbaaGreatDoorScStepAll
import Derived.Test.YtgdmohombcgjbaaGreatDoorLdNumberAll
import Derived.Test.YtgdmohombcgjbaaGreatDoorMcCopiedAll
import Derived.Test.YtgdmohombcgjbaaGreatDoorMcD7All
import Derived.Test.YtgdmohombcgjbaaGreatDoorPrMathAll
import Derived.Maps.OwnSet
import Derived.Maps.OwnOps
import Derived.Maps.Views
import Derived.DeepKeys4
namespace Go.Proofs.YtgdmohombcgjbaaGreatDoor
section
open Go.RowKit
/-- block bm is the machine of a program -/
def IsMach (W : World) (bm : Nat) (p : Ld.Prg) : Prop := ∃ nv rv g gN gS lo uN uS, MachAt W bm nv rv (Mc.total (Mc.parts p)) (2 ^ (Ld.kindL p.names 1).length) (slV gN (Mc.total (Mc.parts p))) (slV g p.names.length) (slV gS (Mc.total (Mc.parts p))) ∧ ((uN.length = Mc.total (Mc.parts p) ∧ uS.length = Mc.total (Mc.parts p)) ∧ LL W gN 41 3 (Mc.total (Mc.parts p)) (2 ^ (Ld.kindL p.names 1).length) lo uN (Mc.nextRow p (Ld.kindL p.names 1).length (2 ^ (Ld.kindL p.names 1).length)) ∧ LL W gS 41 3 (Mc.total (Mc.parts p)) (2 ^ (Ld.kindL p.names 1).length) lo uS (Mc.seesRow p (Ld.kindL p.names 1).length (2 ^ (Ld.kindL p.names 1).length))) ∧ (IsPrg W p (.agg #[nv, rv]) ∧ RowIs W g 117 ((Mc.parts p).flatMap ptCells))
theorem IsMach.below {W W' : World} {bm : Nat} {p : Ld.Prg} (h : IsMach W bm p) (hb : Below W.heap.size W W') : IsMach W' bm p := by
  obtain ⟨nv, rv, g, gN, gS, lo, uN, uS, h1, ⟨h2, h3, h4⟩, h5, h6⟩ := h
  exact ⟨nv, rv, g, gN, gS, lo, uN, uS, h1.below hb, ⟨h2, h3.below hb, h4.below hb⟩, h5.below hb, h6.below hb⟩
theorem IsMach.lt {W : World} {bm : Nat} {p : Ld.Prg} (h : IsMach W bm p) : bm < W.heap.size := by
  obtain ⟨nv, rv, g, gN, gS, lo, uN, uS, h1, _⟩ := h
  exact (Array.getElem?_eq_some_iff.1 h1).1
/-- what Of comes to -/
def Ofed (w : World) (p : Ld.Prg) (e : Ending) (w' : World) : Prop := Below w.heap.size w w' ∧ (if (Ld.kindL p.names 1).length ≤ 6 ∧ Mc.total (Mc.parts p) ≤ 4096 then ∃ bm, e = .returned (.tuple #[.pointer (some ⟨bm, 0, none⟩), .nilIface]) ∧ w.heap.size ≤ bm ∧ IsMach w' bm p else e = .returned (.tuple #[.pointer none, .iface 66 (.int .i64 4)]))
theorem below_but {w w' : World} {k : Nat} (h : ∀ j, j < w.heap.size → j ≠ k → w'.heap[j]? = w.heap[j]?) (hz : w.heap.size ≤ w'.heap.size) (h1 : w'.os = w.os) (h2 : w'.tape = w.tape) (h3 : w'.output = w.output) (hk : k ≤ w.heap.size) : Below k w w' := ⟨h1, h2, h3, hz, fun j hj => h j (by omega) (by omega)⟩
set_option maxHeartbeats 4000000 in
set_option maxRecDepth 100000 in
theorem Of_any (p : Ld.Prg) (v : Value) (w : World) (h : IsPrg w p v) (hck : Ld.check p = none) :
    Calls Tryz.prog 7 #[v] w (Ofed w p) := by
  have HCK := hide hck
  have HPR := hide h
  obtain ⟨nv, rv, rfl, hn, hr⟩ := h
  obtain ⟨na, nk, nc, rfl⟩ := slice_of hn
  obtain ⟨ra, rk, rc, rfl⟩ := slice_ofR hr
  have HNA := hide hn
  obtain ⟨wA, hwA⟩ : ∃ wA, wA = w.alloc (.cells #[.slice na nk nc, .slice ra rk rc] 28) := ⟨_, rfl⟩
  have hbA : Below w.heap.size w wA := by rw [hwA]; exact (Below.refl _ _).alloc (Nat.le_refl _) _
  have hsA : wA.heap.size = w.heap.size + 1 := by rw [hwA]; simp
  have hA : wA.heap[w.heap.size]? = some (.cells #[.slice na nk nc, .slice ra rk rc] 28 (0, 0)) := by rw [hwA]; exact heap_alloc_new _ _
  have HX : Hid (∀ W, Below wA.heap.size wA W → W.cell? ⟨w.heap.size, 0, none⟩ = some (.slice na nk nc) ∧ W.cell? ⟨w.heap.size, 1, none⟩ = some (.slice ra rk rc) ∧ Below w.heap.size w W) := by
    intro W hW
    have e0 := (hW.block w.heap.size (by omega)).trans hA
    exact ⟨by rw [Lib.cell_of_heap e0]; rfl, by rw [Lib.cell_of_heap e0]; rfl, hbA.trans (hW.mono (by omega))⟩
  have HC := hide (Check_any p _ wA (HPR.out.below hbA))
  rw [hck] at HC
  rw [hwA] at HC
  have HWA := hide hwA
  have hq12 : (Ld.kindL p.names 1).length ≤ 12 := Nat.le_trans (Ld.placesTo_le _ _ _) (Ld.check_names p hck).1
  obtain ⟨q, hqq⟩ : ∃ q, q = (Ld.kindL p.names 1).length := ⟨_, rfl⟩
  have HQ := hide hqq
  rw [← hqq] at hq12
  clear hwA hn hr hbA hA hqq hck
  go_enter Tryz.func7, Tryz.ntmps7
  go_wp2_with fail
  refine HC.out.mono ?_
  rintro e w1 ⟨er, rfl, he, hb1⟩
  obtain rfl : er = .nilIface := he
  rw [← HWA.out] at hb1
  have HB1 := hide hb1
  obtain ⟨c0, c1, hw1⟩ := HX.out w1 hb1
  have HKI := hide (Kind_any p.names (.slice na nk nc) (.slice ra rk rc) 1 w1 (HNA.out.below hw1) ⟨_, _, _, rfl⟩)
  rw [← HQ.out] at HKI
  clear hb1 HC hw1
  go_wp2_with fail
  refine HKI.out.mono ?_
  rintro e w2 ⟨kv, rfl, hown, hb2⟩
  obtain ⟨ka, kc, rfl⟩ := own_slice hown
  have HB2 := hide (HB1.out.trans (hb2.mono HB1.out.size))
  obtain ⟨d0, d1, hw2⟩ := HX.out w2 HB2.out
  have HW2 := hide hw2
  clear hown hb2 HKI c0 c1 hw2
  by_cases hq6 : 6 < q
  · have hq6' : (6 : Int) < (q : Int) := by omega
    go_wp2_with fail
    refine bodyPost_ret (results_tmp2 rfl _ _ _) rfl ?_
    exact ⟨HW2.out, by rw [if_neg (by rw [← HQ.out]; omega)]; rfl⟩
  have hq6' : ¬ (6 : Int) < (q : Int) := by omega
  have HPA := hide (partsOf_any p _ w2 (HPR.out.below HW2.out) HCK.out)
  go_wp2_with fail
  refine HPA.out.mono ?_
  rintro e w3 ⟨g, rfl, hrow, hg, hb3⟩
  have HB3 := hide (HB2.out.trans (hb3.mono HB2.out.size))
  obtain ⟨f0, f1, hw3⟩ := HX.out w3 HB3.out
  have HROW := hide hrow
  have hpl : (Mc.parts p).length = p.names.length := Mc.parts_len p
  have HSA := hide (states_any (Mc.parts p) g w3 hrow (by rw [hpl]; exact (Ld.check_names p HCK.out).1) (Mc.parts_ok p) (Mc.parts_le p HCK.out))
  rw [hpl] at HSA
  have hgl := hrow.lt
  obtain ⟨n, hnn⟩ : ∃ n, n = p.names.length := ⟨_, rfl⟩
  have HN := hide hnn
  rw [← hnn] at HSA ⊢
  clear hpl hrow hb3 HPA hw3 d0 d1 hnn
  unfold slV at *
  go_wp2_with fail
  refine HSA.out.mono ?_
  rintro e w4 ⟨rfl, hb4⟩
  have HB4 := hide (HB3.out.trans (hb4.mono HB3.out.size))
  obtain ⟨g0, g1, hw4⟩ := HX.out w4 HB4.out
  have HW4 := hide hw4
  have HROW4 := hide (HROW.out.below hb4)
  obtain ⟨S, hSS⟩ : ∃ S, S = Mc.total (Mc.parts p) := ⟨_, rfl⟩
  have HS := hide hSS
  rw [← hSS]
  clear hb4 HSA hw4 f0 f1 HROW hSS
  by_cases hS4 : S ≤ 4096
  · rw [if_pos hS4]
    have HD4 : Hid (Below w4.heap.size w4 w4.drew) := ⟨rfl, rfl, rfl, Nat.le_refl _, fun _ _ => rfl⟩
    have HCO := hide (copied_any p _ w4.drew (HPR.out.below (HW4.out.trans (HD4.out.mono HW4.out.size))))
    have hp : (2 : Nat) ^ q ≤ 2 ^ 6 := Nat.pow_le_pow_right (by decide) (by omega)
    obtain ⟨I, hII⟩ : ∃ I, I = 2 ^ q := ⟨_, rfl⟩
    have HII := hide hII
    have HP2 : Hid (IntKind.i64.wrap ((2 : Int) ^ q) = (I : Int)) := by
      show IntKind.i64.wrap _ = _
      have e : ((2 : Int) ^ q) = (I : Int) := by rw [hII, Int.natCast_pow]; rfl
      rw [e, IntKind.wrap_i64]
      rw [← hII] at hp
      omega
    rw [← hII] at hp
    clear hII
    go_wp2_with fail
    go_region_with (go_at_call 25; (with_reducible refine HCO.out.mono ?_); rintro e w5 ⟨u, rfl, hp5, hb5⟩; obtain ⟨nv5, rv5, hu5, hn5, hr5⟩ := hp5; subst hu5; obtain ⟨na5, nk5, nc5, hna5⟩ := slice_of hn5; obtain ⟨ra5, rk5, rc5, hra5⟩ := slice_ofR hr5; subst hna5; subst hra5)
    rw [HP2.out]
    obtain ⟨w6, hw6⟩ : ∃ w6, w6 = w5.alloc (.cells #[.slice na5 nk5 nc5, .slice ra5 rk5 rc5, .int .i64 (S : Int), .int .i64 (I : Int), .slice none 0 0, .slice (some ⟨g, 0, none⟩) n n, .slice none 0 0] 75) := ⟨_, rfl⟩
    have hb6 : Below w5.heap.size w5 w6 := by rw [hw6]; exact (Below.refl _ _).alloc (Nat.le_refl _) _
    have hz6 : w6.heap.size = w5.heap.size + 1 := by rw [hw6]; simp
    have hM6 : MachAt w6 w5.heap.size (.slice na5 nk5 nc5) (.slice ra5 rk5 rc5) S I (.slice none 0 0) (slV g n) (.slice none 0 0) := by rw [hw6]; exact heap_alloc_new _ _
    have hb45 : Below w4.heap.size w4 w5 := HD4.out.trans hb5
    have hr6 := (HROW4.out.below hb45).below hb6
    have hp6 : IsPrg w6 p (.agg #[.slice na5 nk5 nc5, .slice ra5 rk5 rc5]) := IsPrg.below ⟨_, _, rfl, hn5, hr5⟩ hb6
    rw [HN.out] at hM6
    have HFI := hide (fill_any w5.heap.size p _ _ g S I w6 hM6 hp6 HCK.out hr6 HS.out hS4 (by rw [HII.out, HQ.out]) (by omega))
    rw [hw6] at HFI
    have HW6 := hide hw6
    have HB46 := hide (HW4.out.trans ((hb45.trans (hb6.mono hb45.size)).mono HW4.out.size))
    have hz5 : w.heap.size ≤ w5.heap.size := Nat.le_trans HW4.out.size hb45.size
    clear hw6 hM6 hr6 hp6 hb45 hb5 hb6 hn5 hr5 HCO g0 g1
    go_wp2_with fail
    refine HFI.out.mono ?_
    rintro e w7 ⟨rfl, gN, gS, lo, uN, uS, hm, ⟨⟨hu1, hu2⟩, ht1, ht2⟩, ⟨hpr, hro⟩, hold, hsz, ho1, ho2, ho3⟩
    rw [← HW6.out] at hold hsz ho1 ho2 ho3
    have HB7 : Hid (Below w.heap.size w w7) := by
      refine HB46.out.trans ⟨ho1, ho2, ho3, hsz, fun k hk => hold k ?_ ?_⟩
      · have := HB46.out.size; omega
      · omega
    have HMA : Hid (IsMach w7 w5.heap.size p) := by
      rw [HII.out, HQ.out, HS.out] at hm ht1 ht2
      rw [HS.out] at hu1 hu2
      exact ⟨_, _, g, gN, gS, lo, uN, uS, hm, ⟨⟨hu1, hu2⟩, ht1, ht2⟩, hpr, hro⟩
    clear hm ht1 ht2 hpr hro hold HFI
    go_wp2_with fail
    refine bodyPost_ret (results_tmp2 rfl _ _ _) rfl ?_
    refine ⟨HB7.out, ?_⟩
    rw [if_pos ⟨by rw [← HQ.out]; omega, by rw [← HS.out]; exact hS4⟩]
    exact ⟨w5.heap.size, rfl, hz5, HMA.out⟩
  · rw [if_neg hS4]
    go_wp2_with fail
    refine bodyPost_ret (results_tmp2 rfl _ _ _) rfl ?_
    exact ⟨HW4.out, by rw [if_neg (by rw [← HS.out]; omega)]; rfl⟩
end
section
open Go.RowKit
theorem ptold_any (nv rv lv : Value) (w : World) (hn : ∃ a n c, nv = .slice a n c) (hr : ∃ a n c, rv = .slice a n c) (hl : ∃ a n c, lv = .slice a n c) :
    Calls Tryz.prog 60 #[.agg #[nv, rv], lv] w fun e w' => e = .returned (.func (.func 88) #[] #[.pointer (some ⟨w.heap.size, 0, none⟩), .pointer (some ⟨w.heap.size + 1, 0, none⟩)]) ∧ w' = (w.alloc (.cells #[nv, rv] 28)).alloc (.cells #[lv] 84) := by
  have hmf : ∀ (fn : Fn) (first cap : Array Value) (w : World), (Instr.makeFunc fn first cap).run Tryz.prog w = .ok (.func fn first cap) w := fun _ _ _ _ => rfl
  obtain ⟨a1, n1, c1, rfl⟩ := hn
  obtain ⟨a2, n2, c2, rfl⟩ := hr
  obtain ⟨a3, n3, c3, rfl⟩ := hl
  go_enter Tryz.func60, Tryz.ntmps60
  go_wp2_with fail
  go_ret
  exact ⟨rfl, rfl⟩
set_option maxHeartbeats 2000000 in
set_option maxRecDepth 100000 in
theorem ptold1_any (ns : List Ld.Nme) (nv rv : Value) (is : List Bool) (gi a b : Nat) (nm : List UInt8) (w : World) (hn : NamesAt w nv ns) (hr : ∃ a n c, rv = .slice a n c) (hlen : is.length = ns.length)
    (h0 : w.cell? ⟨a, 0, none⟩ = some nv) (h1 : w.cell? ⟨a, 1, none⟩ = some rv) (h2 : w.cell? ⟨b, 0, none⟩ = some (.slice (some ⟨gi, 0, none⟩) is.length is.length)) (hi : w.heap[gi]? = some (.cells ⟨is.map boolV⟩ 4 (0, 0))) :
    Calls Tryz.prog 88 #[.string ⟨nm.toArray⟩, .pointer (some ⟨a, 0, none⟩), .pointer (some ⟨b, 0, none⟩)] w fun e w' => e = .returned (.bool (Sc.told ns is nm)) ∧ Below w.heap.size w w' := by
  obtain ⟨ra, rn, rc, rfl⟩ := hr
  have HNU := hide (Number_any ns nv (.slice ra rn rc) nm w hn ⟨_, _, _, rfl⟩)
  obtain ⟨na, nc, rfl, hn1⟩ := hn.slice
  have hlo := Ld.number_lt ns nm
  have hge := Ld.number_ge ns nm
  have HT : Hid (Sc.told ns is nm = (decide (0 ≤ Ld.number ns nm) && is.getD (Ld.number ns nm).toNat false)) := rfl
  have ha : a < w.heap.size := World.block_lt_of_cell? _ _ h0
  have hb : b < w.heap.size := World.block_lt_of_cell? _ _ h2
  have hg : gi < w.heap.size := (Array.getElem?_eq_some_iff.1 hi).1
  have HI := hide hi
  have H2 := hide h2
  generalize Sc.told ns is nm = T at *
  generalize Ld.number ns nm = u at *
  rw [hlen] at H2 h2
  generalize ns.length = m at *
  clear hi hn
  go_enter Tryz.func88, Tryz.ntmps88
  go_wp2_with fail
  refine HNU.out.mono ?_
  rintro e w1 ⟨rfl, hb1⟩
  have HB1 := hide hb1
  have k2 := (hb1.cell (p := ⟨b, 0, none⟩) hb).trans H2.out
  by_cases hu : 0 ≤ u
  · obtain ⟨j, rfl⟩ : ∃ j : Nat, u = (j : Int) := ⟨u.toNat, by omega⟩
    have hj : j < m := by omega
    have k3 : w1.cell? ⟨gi, j, none⟩ = some (.bool (is.getD j false)) := by
      rw [hb1.cell (p := ⟨gi, j, none⟩) hg, Lib.cell_of_heap HI.out]
      simp [boolV, hlen, hj]
    simp only [Int.toNat_natCast] at HT
    generalize is.getD j false = bv at *
    clear hb1 HNU
    go_wp2_with fail
    go_ret
    exact ⟨ret_bool (by rw [HT.out]; simp), HB1.out⟩
  · clear hb1 HNU
    have HD : Hid (decide (0 ≤ u) = false) := by show _ = _; simpa using hu
    go_wp2_with fail
    go_ret
    exact ⟨ret_bool (by rw [HT.out, HD.out]; rfl), HB1.out⟩
/-- the closure that told makes, asked later -/
theorem ptells_told (ns : List Ld.Nme) (nv rv : Value) (is : List Bool) (gi a b : Nat) (w : World) (hn : NamesAt w nv ns) (hr : ∃ a n c, rv = .slice a n c) (hlen : is.length = ns.length)
    (h0 : w.cell? ⟨a, 0, none⟩ = some nv) (h1 : w.cell? ⟨a, 1, none⟩ = some rv) (h2 : w.cell? ⟨b, 0, none⟩ = some (.slice (some ⟨gi, 0, none⟩) is.length is.length)) (hi : w.heap[gi]? = some (.cells ⟨is.map boolV⟩ 4 (0, 0))) :
    E2.Tells (.func (.func 88) #[] #[.pointer (some ⟨a, 0, none⟩), .pointer (some ⟨b, 0, none⟩)]) (Sc.told ns is) w :=
  ⟨88, _, _, rfl, fun _ _ => by kernel_rfl, fun W hW nm => ptold1_any ns nv rv is gi a b nm W (hn.below hW) hr hlen ((hW.cell (p := ⟨a, 0, none⟩) (World.block_lt_of_cell? _ _ h0)).trans h0) ((hW.cell (p := ⟨a, 1, none⟩) (World.block_lt_of_cell? _ _ h1)).trans h1) ((hW.cell (p := ⟨b, 0, none⟩) (World.block_lt_of_cell? _ _ h2)).trans h2) ((hW.block _ (Array.getElem?_eq_some_iff.1 hi).1).trans hi)⟩
end
section
open Go.RowKit
namespace Pr
/-- each name of an expression is one of the program's -/
def has (ns : List Ld.Nme) (x : Ex) : Bool := (ordered (x.named true)).all fun s => decide (0 ≤ Ld.number ns s)
end Pr
set_option maxHeartbeats 2000000 in
set_option maxRecDepth 100000 in
theorem hasNames_any (ok : Nat → Prop) (ns : List Ld.Nme) (nv rv : Value) (x : Ex) (v : Value) (w : World) (hn : NamesAt w nv ns) (hr : ∃ a n c, rv = .slice a n c) (h : IsEx ok w x v) (hlen : x.size ≤ 1000000) :
    Calls Tryz.prog 59 #[.agg #[nv, rv], v] w fun e w' => e = .returned (.bool (Pr.has ns x)) ∧ Below w.heap.size w w' := by
  obtain ⟨tu, yu, rfl⟩ := IsEx.iface x v h
  have HN := hide hn
  have hr2 := hr
  obtain ⟨ra, rn, rc, rfl⟩ := hr
  obtain ⟨w1, hw1⟩ : ∃ w1, w1 = w.alloc (.cells #[nv, .slice ra rn rc] 28) := ⟨_, rfl⟩
  have hb1 : Below w.heap.size w w1 := by rw [hw1]; exact (Below.refl _ _).alloc (Nat.le_refl _) _
  have hB : w1.heap[w.heap.size]? = some (.cells #[nv, .slice ra rn rc] 28 (0, 0)) := by rw [hw1]; exact heap_alloc_new _ _
  have HB := hide hB
  have HNM := hide (Names_any (fun _ => True) x _ w1 (IsEx.stay (Stay.below hb1) (fun g _ => trivial) x _ h) hlen)
  have hz1 : w1.heap.size = w.heap.size + 1 := by rw [hw1]; simp
  rw [hw1] at HNM
  have HW1 := hide hw1
  have HB1 := hide hb1
  obtain ⟨L, hL⟩ : ∃ L, L = ordered (x.named true) := ⟨_, rfl⟩
  have HAS : Hid (Pr.has ns x = L.all fun s => decide (0 ≤ Ld.number ns s)) := by show _ = _; rw [hL]; rfl
  rw [← hL] at HNM
  obtain ⟨na, nc, rfl, _⟩ := hn.slice
  clear hw1 hb1 hB hn h hL
  go_enter Tryz.func59, Tryz.ntmps59
  go_wp2_with fail
  refine HNM.out.mono ?_
  rintro e w2 ⟨sv, rfl, hs, hb2⟩
  rw [← HW1.out] at hb2
  have HS := hide hs
  have HB2 := hide hb2
  have HBW := hide (HB1.out.trans (hb2.mono HB1.out.size))
  obtain ⟨sa, sc, rfl⟩ : ∃ a c, sv = .slice a L.length c := by
    rcases hs.at with ⟨rfl, a, c, rfl⟩ | ⟨g, o, c, rfl, _⟩
    · exact ⟨_, _, rfl⟩
    · exact ⟨_, _, rfl⟩
  have hLl : L.length ≤ 1000000 := by
    rcases hs.at with ⟨rfl, _⟩ | ⟨g, o, c, _, _, h3, _⟩
    · simp
    · exact h3
  clear hs hb2 HNM
  go_wp2_with fail
  go_loopw [10] (fun i wr => ∃ j : Nat, j ≤ L.length ∧ i = .int .i64 (j : Int) ∧ Hid ((L.take j).all (fun s => decide (0 ≤ Ld.number ns s)) = true) ∧ Hid (Below w2.heap.size w2 wr)) (fun i _ => L.length - (intOf i).toNat)
  case atStart => exact ⟨0, Nat.zero_le _, rfl, rfl, Below.refl _ _⟩
  case round =>
    obtain ⟨j, hj, rfl, HT, HBR⟩ := hrel
    have hbw : Below w.heap.size w wr := HBW.out.trans (HBR.out.mono HBW.out.size)
    by_cases hlt : j < L.length
    · have hje := List.getElem?_eq_getElem hlt
      have HTS : Hid ((L.take (j + 1)).all (fun s => decide (0 ≤ Ld.number ns s)) = ((L.take j).all (fun s => decide (0 ≤ Ld.number ns s)) && decide (0 ≤ Ld.number ns L[j]))) := by
        show _ = _
        rw [List.take_succ_eq_append_getElem hlt, List.all_append]
        simp
      have HMN : Hid (Ld.number ns L[j] < 0 → (L.all fun s => decide (0 ≤ Ld.number ns s)) = false) := fun hneg => by
        rw [List.all_eq_false]
        exact ⟨L[j], List.getElem_mem hlt, by simp; omega⟩
      generalize L[j] = nm at *
      obtain ⟨g, o, rfl, hcell⟩ : ∃ g o, sa = some ⟨g, o, none⟩ ∧ wr.cell? ⟨g, o + j, none⟩ = some (.string ⟨nm.toArray⟩) := by
        rcases HS.out with ⟨h0, _⟩ | ⟨g, o, c, h1, _, _, h4⟩
        · have : L = [] := by simpa using h0
          rw [this] at hlt; simp at hlt
        · simp only [Value.slice.injEq] at h1
          have h5 := h4 j (toBA nm) (by rw [List.getElem?_map, hje]; rfl)
          exact ⟨g, o, h1.1, (HBR.out.cell (World.block_lt_of_cell? _ _ h5)).trans h5⟩
      have hcap : L.length ≤ sc := by
        rcases HS.out with ⟨h0, _⟩ | ⟨g', o', c, h1, h2, _⟩
        · have : L = [] := by simpa using h0
          rw [this]; simp
        · simp only [Value.slice.injEq] at h1
          rw [h1.2.2]; simpa using h2
      obtain ⟨b0, b1, _, _⟩ := two_cells ((HBR.out.block _ (by have := HB2.out.size; omega)).trans ((HB2.out.block _ (by omega)).trans HB.out))
      have HNU := hide (Number_any ns _ (.slice ra rn rc) nm wr (HN.out.below hbw) ⟨_, _, _, rfl⟩)
      have hji : (j : Int) < (L.length : Int) := by omega
      generalize Ld.number ns nm = u at *
      clear hje hbw
      go_wp2_with fail
      refine HNU.out.mono ?_
      rintro e w3 ⟨rfl, hb3⟩
      have HB3 := hide hb3
      clear hb3 HNU
      by_cases hu : u < 0
      · have HR := hide (HMN.out hu)
        go_wp2_with fail
        go_ret
        exact ⟨ret_bool (by rw [HAS.out, HR.out]), HBW.out.trans ((HBR.out.trans (HB3.out.mono HBR.out.size)).mono HBW.out.size)⟩
      · have HD : Hid (decide (0 ≤ u) = true) := decide_eq_true (by omega)
        go_wp2_with fail
        exact ⟨⟨j + 1, by omega, by go_num, (by show _ = _; rw [HTS.out, HT.out, HD.out]; rfl), HBR.out.trans (HB3.out.mono HBR.out.size)⟩, by simp [intOf]; omega⟩
    · have hjl : j = L.length := by omega
      have HR : Hid ((L.all fun s => decide (0 ≤ Ld.number ns s)) = true) := by
        have := HT.out
        rw [hjl, List.take_length] at this
        exact this
      subst hjl
      have HE := hide hbw
      clear hbw
      go_wp2_with fail
      go_ret
      exact ⟨ret_bool (by rw [HAS.out, HR.out]), HE.out⟩
end
section
namespace Mc
theorem number_zero : ∀ (l : List (Nat × Bool)) (n : Nat), number l (List.replicate n false) (List.replicate n 0) = 0
  | [], _ => rfl
  | x :: r, 0 => by
    have ih := number_zero r 0
    show number r [] [] * x.1 + told x false 0 = 0
    have h0 : number r [] [] = 0 := ih
    rw [h0, Nat.zero_mul]; unfold told; split <;> simp
  | x :: r, n + 1 => by
    have ih := number_zero r n
    show number r (List.replicate n false) (List.replicate n 0) * x.1 + told x false 0 = 0
    rw [ih, Nat.zero_mul]; unfold told; split <;> simp
theorem number_start (p : Ld.Prg) : number (parts p) (Sc.start p).is (Sc.start p).ct = 0 := number_zero _ _
/-- a scan out of a state's number is a scan out of the state -/
theorem after1_eq (p : Ld.Prg) (hck : Ld.check p = none) (s : Sc.St) (hb : Sc.Bd p s) (x : Int) (q i : Nat) (hq : q = (Ld.kindL p.names 1).length) (hi : (i : Int) = x % 2 ^ q) : after1 p q (number (parts p) s.is s.ct) i = Sc.step p s (bitsTo x q) := by
  unfold after1
  rw [hi, bitsTo_mod]
  exact (alike_step p hck s _ (bitsTo x q) (alike_number p hck s hb) hb.li (by rw [bitsTo_len]; exact hq)).symm
theorem mod_mod (x : Int) (q : Nat) (hq : q ≤ 60) : x % 18446744073709551616 % (2 ^ q : Nat) = x % 2 ^ q := by
  have h : ((2 ^ q : Nat) : Int) ∣ 18446744073709551616 := by
    refine ⟨((2 ^ (64 - q) : Nat) : Int), ?_⟩
    rw [← Int.natCast_mul, ← Nat.pow_add, show q + (64 - q) = 64 by omega]
    decide
  rw [Int.emod_emod_of_dvd _ h]
  simp
theorem number_after (p : Ld.Prg) (s : Sc.St) (hb : Sc.Bd p s) : number (parts p) s.is s.ct < total (parts p) :=
  number_lt (parts p) s.is s.ct (parts_ok p) (by rw [hb.li, parts_len]) (by rw [hb.lc, parts_len]) (ok_bd p s hb)
end Mc
end
section
open Go.RowKit Go.Maps
def plV (p : Nat × Nat) : Value := .agg #[.int .i64 (p.1 : Int), .int .i64 (p.2 : Int)]
def stpV (x : (Nat × Nat) × Nat) : Value := .agg #[.int .i64 (x.1.1 : Int), .int .i64 (x.1.2 : Int), .int .i64 (x.2 : Int)]
theorem lawP : Keyed Tryz.prog 82 := Keyed.of_law (deep_law_laid (m := 9) (by kernel_rfl) (by decide) (of_decide_eq_true (by kernel_rfl)) (by kernel_rfl) (by kernel_rfl))
theorem zeroSt (w : World) : (zeroValue 135).run Tryz.prog w = .ok (stpV ((0, 0), 0)) w := by kernel_rfl
def plK (p : Nat × Nat) : Lit := .string (keyBytes [.int .i64 (p.1 : Int), .int .i64 (p.2 : Int)])
def Small (p : Nat × Nat) : Prop := p.1 ≤ 100000 ∧ p.2 ≤ 100000
theorem lits_int (m : Nat) (x : Int) (h : (Lit.int .i64 x).wf = true) : Tryz.prog.keyLits (m + 1) 3 [.int .i64 x] = some [.int .i64 x] := by
  unfold Program.keyLits
  simp only [Tryz.underlying3]
  rw [h]
  rfl
theorem key_pl (p : Nat × Nat) (h : Small p) : keyOf Tryz.prog 82 (plV p) = some (plK p) := by
  have w1 : (Lit.int .i64 (p.1 : Int)).wf = true := WalkArith.wf_i64 (by have := h.1; omega)
  have w2 : (Lit.int .i64 (p.2 : Int)).wf = true := WalkArith.wf_i64 (by have := h.2; omega)
  obtain ⟨m, hm⟩ : ∃ m, Tryz.prog.types.size = m + 1 := ⟨Tryz.prog.types.size - 1, by kernel_rfl⟩
  have c1 : Tryz.prog.cellsOf 3 = 1 := by kernel_rfl
  have c2 : Tryz.prog.cellsOf 82 = 2 := by kernel_rfl
  have kt : Tryz.prog.keyType 82 = true := by kernel_rfl
  unfold keyOf
  simp only [Tryz.underlying82]
  rw [kt]
  have hf : (plV p).formed Tryz.prog 82 = true := by
    unfold plV Value.formed
    simp only [Tryz.underlying82, c2]
    rfl
  rw [hf, hm]
  have hl : Tryz.prog.keyLits (m + 1 + 1) 82 (plV p).cells.toList = some [.int .i64 (p.1 : Int), .int .i64 (p.2 : Int)] := by
    have e1 := lits_int m _ w1
    have e2 := lits_int m _ w2
    unfold Program.keyLits
    simp only [Tryz.underlying82]
    rw [if_pos (by rw [c2]; exact ⟨rfl, by kernel_rfl⟩)]
    simp [plV, Value.cells, c1, e1, e2]
  rw [hl]
  rfl
theorem plK_inj {p q : Nat × Nat} (hp : Small p) (hq : Small q) (h : plK p = plK q) : p = q := by
  have h1 := lawP.inj (key_pl p hp) ((key_pl q hq).trans (congrArg some h.symm))
  have h1 := Value.agg.inj h1
  have e1 := congrArg (fun a : Array Value => a[0]?) h1
  have e2 := congrArg (fun a : Array Value => a[1]?) h1
  simp at e1 e2
  exact Prod.ext (by omega) (by omega)
/-- how an element reads: as itself -/
def heldR (v : Value) : Option (DataW Value × List MemPlace) := some (.held v, [])
/-- at each place what f tells -/
def CMap (W : World) (b n : Nat) (f : Nat × Nat → Option ((Nat × Nat) × Nat)) : Prop := ∃ D : DataW Value, W.ownsMap Tryz.prog 82 heldR b n D ∧ ∀ p, Small p → D.atKey (plK p) .nil = (match f p with | some x => .held (stpV x) | none => .nil)
theorem CMap.made (W : World) : CMap (W.alloc (.map #[] 0)) W.heap.size 0 (fun _ => none) := ⟨_, World.ownsMap_made _ _ _ _, fun _ _ => rfl⟩
theorem CMap.lt {W : World} {b n : Nat} {f : Nat × Nat → Option ((Nat × Nat) × Nat)} (h : CMap W b n f) : b < W.heap.size := by obtain ⟨_, h, _⟩ := h; exact h.lt
theorem CMap.kept {W W' : World} {b n : Nat} {f : Nat × Nat → Option ((Nat × Nat) × Nat)} (h : CMap W b n f) (hb : W'.heap[b]? = W.heap[b]?) : CMap W' b n f := by
  obtain ⟨D, ⟨es, clock, h1, h2⟩, h3⟩ := h
  exact ⟨D, ⟨es, clock, hb.trans h1, h2⟩, h3⟩
def lookV (c : Bool) (x : Option ((Nat × Nat) × Nat)) : Value :=
  if c then .tuple #[stpV (x.getD ((0, 0), 0)), .bool x.isSome] else stpV (x.getD ((0, 0), 0))
theorem CMap.look {W : World} {b n : Nat} {f : Nat × Nat → Option ((Nat × Nat) × Nat)} (h : CMap W b n f) (c : Bool) (p : Nat × Nat) (hp : Small p) : (Instr.lookup 136 (.map (some b)) (plV p) c).run Tryz.prog W = .ok (lookV c (f p)) W := by
  obtain ⟨D, ⟨es, clock, hb, F, _, rfl⟩, h3⟩ := h
  have h4 := h3 p hp
  rcases Maps.fit_look c lawP Tryz.underlying136 (zeroSt W) hb F (key_pl p hp) with ⟨hrun, _, hat⟩ | ⟨e0, y, _, _, hrun, hRv, hat, _⟩
  · rw [hat .nil] at h4
    cases hf : f p with
    | some x => rw [hf] at h4; cases h4
    | none =>
      rw [hrun]
      cases c <;> rfl
  · rw [hat .nil] at h4
    obtain rfl : y = (.held e0.val, []) := (Option.some.inj hRv).symm
    cases hf : f p with
    | none => rw [hf] at h4; cases h4
    | some x =>
      rw [hf] at h4
      have h5 : e0.val = stpV x := DataW.held.inj h4
      rw [hrun, h5]
      cases c <;> rfl
theorem CMap.put {W : World} {b n : Nat} {f : Nat × Nat → Option ((Nat × Nat) × Nat)} (h : CMap W b n f) (hn : n ≤ 1000000) (p : Nat × Nat) (x : (Nat × Nat) × Nat) (hp : Small p) : ∃ W', (Instr.mapUpdate 136 (.map (some b)) (plV p) (stpV x)).run Tryz.prog W = .ok () W' ∧ CMap W' b (n + 1) (fun q => if q = p then some x else f q) ∧ W.grownBy W' (some b) := by
  obtain ⟨D, ho, h3⟩ := h
  obtain ⟨W', hrun, ho', hg⟩ := ho.update lawP Tryz.underlying136 (by unfold maxLen; omega) (key_pl p hp) (show heldR (stpV x) = some (.held (stpV x), []) from rfl)
  refine ⟨W', hrun, ⟨_, ho', fun q hq => ?_⟩, hg⟩
  by_cases e : q = p
  · subst e
    rw [atKey_put_same ho.isMap (lawP.key (key_pl q hp))]
    dsimp only
    rw [if_pos rfl]
  · rw [atKey_put_other (fun h => e (plK_inj hq hp h)), h3 q hq]
    dsimp only
    rw [if_neg e]
end
section
open Go.RowKit
/-- a row of bools, and what lies behind them -/
def BRow (W : World) (g : Nat) (l : List Bool) (rest : List Value) : Prop := RowIs W g 4 (l.map boolV ++ rest)
theorem BRow.below {W W' : World} {g : Nat} {l : List Bool} {rest : List Value} (h : BRow W g l rest) (hb : Below W.heap.size W W') : BRow W' g l rest := RowIs.below h hb
theorem BRow.cell {W : World} {g : Nat} {l : List Bool} {rest : List Value} (h : BRow W g l rest) (k : Nat) (b : Bool) (hb : l[k]? = some b) : W.cell? ⟨g, k, none⟩ = some (.bool b) :=
  RowIs.cell h k _ (by rw [List.getElem?_append_left (by rw [List.length_map]; exact (List.getElem?_eq_some_iff.1 hb).1), List.getElem?_map, hb]; rfl)
theorem BRow.set {W : World} {g : Nat} {l : List Bool} {rest : List Value} (h : BRow W g l rest) (k : Nat) (b : Bool) (hk : k < l.length) : BRow (W.setCell ⟨g, k, none⟩ (.bool b)) g (l.set k b) rest := by
  have h1 := RowIs.set h k (.bool b)
  rw [List.set_append_left _ _ (by rw [List.length_map]; exact hk)] at h1
  unfold BRow
  rw [List.map_set]
  exact h1
theorem BRow.bools {W : World} {g cp : Nat} {l : List Bool} {rest : List Value} (h : BRow W g l rest) (hl : l.length ≤ 1000000) : Bools W (.slice (some ⟨g, 0, none⟩) l.length cp) l :=
  ⟨_, _, rfl, hl, fun i b hb => ⟨g, rfl, h.cell i b hb⟩⟩
def lenV : Value → Nat
  | .slice _ n _ => n
  | _ => 0
theorem own_pop {W : World} {q g n cap : Nat} {e : TypeId} {xs : List Value} (h : W.ownsRow q e 1 (.slice (some ⟨g, 0, none⟩) (n + 1) cap) (n + 1) xs) : W.ownsRow q e 1 (.slice (some ⟨g, 0, none⟩) n cap) n (xs.take n) := by
  obtain ⟨h0, h1⟩ := h
  refine ⟨by rw [List.length_take]; omega, ?_⟩
  rcases h1 with ⟨hx, _⟩ | ⟨g', cap', cur, hx, h2, h3, h4, h5, h6, h7⟩
  · cases hx
  · simp only [Value.slice.injEq, Option.some.injEq, Addr.mk.injEq, true_and] at hx
    obtain ⟨⟨rfl, _⟩, rfl⟩ := hx
    refine .inr ⟨g, cap, cur, rfl, h2, h3, by omega, h5, h6, ?_⟩
    rw [← h7, List.take_take]
    congr 1
    omega
theorem grown_trans {A B C : World} {r : Option Nat} (h : A.grownBy B r) (k : B.grownBy C r) : A.grownBy C r :=
  ⟨k.os.trans h.os, k.tape.trans h.tape, k.output.trans h.output, Nat.le_trans h.size k.size, fun b hb hr => (k.block b (Nat.lt_of_lt_of_le hb h.size) hr).trans (h.block b hb hr)⟩
theorem grown_of_below {A B : World} (r : Option Nat) (h : Below A.heap.size A B) : A.grownBy B r := ⟨h.os, h.tape, h.output, h.size, fun b hb _ => h.block b hb⟩
end
section
open Go.RowKit
/-- where a state leads to, input by input -/
def Mc.nexts (p : Ld.Prg) (s : Nat) : List Nat := (List.range (2 ^ (Ld.kindL p.names 1).length)).map fun i => Mc.number (Mc.parts p) (Mc.after1 p (Ld.kindL p.names 1).length s i).is (Mc.after1 p (Ld.kindL p.names 1).length s i).ct
theorem Mc.nexts_len (p : Ld.Prg) (s : Nat) : (Mc.nexts p s).length = 2 ^ (Ld.kindL p.names 1).length := by simp [Mc.nexts]
theorem Mc.nexts_row (p : Ld.Prg) (s : Nat) : Mc.nextRow p (Ld.kindL p.names 1).length (2 ^ (Ld.kindL p.names 1).length) s = (Mc.nexts p s).map intV := by simp [Mc.nexts, Mc.nextRow, intV]
theorem Mc.nexts_lt (p : Ld.Prg) (hck : Ld.check p = none) (s x : Nat) (h : x ∈ Mc.nexts p s) : x < Mc.total (Mc.parts p) := by
  unfold Mc.nexts at h
  obtain ⟨i, _, rfl⟩ := List.mem_map.1 h
  exact Mc.number_after p _ (Sc.step_bd p hck _ _ (Mc.state_bd p hck s) (bitsTo_len _ _)).1
/-- a machine's table: from each state, by each input -/
def NextAt (W : World) (bm S I : Nat) (next : Nat → List Nat) (gN : Nat) (uN : List Nat) : Prop := W.cell? ⟨bm, 4, none⟩ = some (.slice (some ⟨gN, 0, none⟩) S S) ∧ uN.length = S ∧ ∀ (s b : Nat), uN[s]? = some b → W.cell? ⟨gN, s, none⟩ = some (.slice (some ⟨b, 0, none⟩) I I) ∧ ∀ (i x : Nat), (next s)[i]? = some x → W.cell? ⟨b, i, none⟩ = some (.int .i64 (x : Int))
theorem NextAt.below {W W' : World} {bm S I gN : Nat} {next : Nat → List Nat} {uN : List Nat} (h : NextAt W bm S I next gN uN) (hb : Below W.heap.size W W') : NextAt W' bm S I next gN uN :=
  have key : ∀ (p : Addr) v, W.cell? p = some v → W'.cell? p = some v := fun _ _ hv => (hb.cell (World.block_lt_of_cell? _ _ hv)).trans hv
  ⟨key _ _ h.1, h.2.1, fun s b hs => ⟨key _ _ (h.2.2 s b hs).1, fun i x hx => key _ _ ((h.2.2 s b hs).2 i x hx)⟩⟩
/-- a slice of one that the call has built -/
theorem own_one (W : World) (q : Nat) (e : TypeId) (v : Value) (hq : q ≤ W.heap.size) : (W.alloc (.cells #[v] e)).ownsRow q e 1 (.slice (some ⟨W.heap.size, 0, none⟩) 1 1) 1 [v] :=
  ⟨by simp, .inr ⟨W.heap.size, 1, #[v], rfl, hq, heap_alloc_new W _, Nat.le_refl _, by decide, by simp, by simp⟩⟩
end
end Go.Proofs.YtgdmohombcgjbaaGreatDoor
