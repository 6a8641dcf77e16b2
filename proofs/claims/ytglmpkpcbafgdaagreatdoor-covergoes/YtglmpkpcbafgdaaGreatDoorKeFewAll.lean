/-
  The walk of package machine's Of: a machine of a program, in memory. A map of bools over numbers that a call has made. The walk of the statements' own made: a machine of few states and inputs. A machine's table, state by state. The table and the sizes of a machine of few states.
-/
import Derived.Test.YtglmpkpcbafgdaaGreatDoorMcFill
import Derived.Test.YtglmpkpcbafgdaaGreatDoorMcOffAll
import Derived.Test.YtglmpkpcbafgdaaGreatDoorRcRowAll
import Derived.Maps.OwnSet
import Derived.Maps.OwnOps
import Derived.Maps.Views
namespace Go.Proofs.YtglmpkpcbafgdaaGreatDoor
section
open Go.RowKit
/-- block bm is the machine of a program -/
def IsMach (W : World) (bm : Nat) (p : Ld.Prg) : Prop := ∃ nv rv g gN gS lo uN uS, MachAt W bm nv rv (Mc.total (Mc.parts p)) (2 ^ (Ld.kindL p.names 1).length) (slV gN (Mc.total (Mc.parts p))) (slV g p.names.length) (slV gS (Mc.total (Mc.parts p))) ∧ ((uN.length = Mc.total (Mc.parts p) ∧ uS.length = Mc.total (Mc.parts p)) ∧ LL W gN 26 3 (Mc.total (Mc.parts p)) (2 ^ (Ld.kindL p.names 1).length) lo uN (Mc.nextRow p (Ld.kindL p.names 1).length (2 ^ (Ld.kindL p.names 1).length)) ∧ LL W gS 26 3 (Mc.total (Mc.parts p)) (2 ^ (Ld.kindL p.names 1).length) lo uS (Mc.seesRow p (Ld.kindL p.names 1).length (2 ^ (Ld.kindL p.names 1).length))) ∧ (IsPrg W p (.agg #[nv, rv]) ∧ RowIs W g 135 ((Mc.parts p).flatMap ptCells))
theorem IsMach.below {W W' : World} {bm : Nat} {p : Ld.Prg} (h : IsMach W bm p) (hb : Below W.heap.size W W') : IsMach W' bm p := by
  obtain ⟨nv, rv, g, gN, gS, lo, uN, uS, h1, ⟨h2, h3, h4⟩, h5, h6⟩ := h
  exact ⟨nv, rv, g, gN, gS, lo, uN, uS, h1.below hb, ⟨h2, h3.below hb, h4.below hb⟩, h5.below hb, h6.below hb⟩
theorem IsMach.lt {W : World} {bm : Nat} {p : Ld.Prg} (h : IsMach W bm p) : bm < W.heap.size := by
  obtain ⟨nv, rv, g, gN, gS, lo, uN, uS, h1, _⟩ := h
  exact (Array.getElem?_eq_some_iff.1 h1).1
/-- what Of comes to -/
def Ofed (w : World) (p : Ld.Prg) (e : Ending) (w' : World) : Prop := Below w.heap.size w w' ∧ (if (Ld.kindL p.names 1).length ≤ 6 ∧ Mc.total (Mc.parts p) ≤ 4096 then ∃ bm, e = .returned (.tuple #[.pointer (some ⟨bm, 0, none⟩), .nilIface]) ∧ w.heap.size ≤ bm ∧ IsMach w' bm p else e = .returned (.tuple #[.pointer none, .iface 31 (.int .i64 4)]))
theorem below_but {w w' : World} {k : Nat} (h : ∀ j, j < w.heap.size → j ≠ k → w'.heap[j]? = w.heap[j]?) (hz : w.heap.size ≤ w'.heap.size) (h1 : w'.os = w.os) (h2 : w'.tape = w.tape) (h3 : w'.output = w.output) (hk : k ≤ w.heap.size) : Below k w w' := ⟨h1, h2, h3, hz, fun j hj => h j (by omega) (by omega)⟩
set_option maxHeartbeats 4000000 in
set_option maxRecDepth 100000 in
theorem Of_any (p : Ld.Prg) (v : Value) (w : World) (h : IsPrg w p v) (hck : Ld.check p = none) :
    Calls Tryz.prog 11 #[v] w (Ofed w p) := by
  have HCK := hide hck
  have HPR := hide h
  obtain ⟨nv, rv, rfl, hn, hr⟩ := h
  obtain ⟨na, nk, nc, rfl⟩ := slice_of hn
  obtain ⟨ra, rk, rc, rfl⟩ := slice_ofR hr
  have HNA := hide hn
  obtain ⟨wA, hwA⟩ : ∃ wA, wA = w.alloc (.cells #[.slice na nk nc, .slice ra rk rc] 37) := ⟨_, rfl⟩
  have hbA : Below w.heap.size w wA := by rw [hwA]; exact (Below.refl _ _).alloc (Nat.le_refl _) _
  have hsA : wA.heap.size = w.heap.size + 1 := by rw [hwA]; simp
  have hA : wA.heap[w.heap.size]? = some (.cells #[.slice na nk nc, .slice ra rk rc] 37 (0, 0)) := by rw [hwA]; exact heap_alloc_new _ _
  have HX : Hid (∀ W, Below wA.heap.size wA W → W.cell? ⟨w.heap.size, 0, none⟩ = some (.slice na nk nc) ∧ W.cell? ⟨w.heap.size, 1, none⟩ = some (.slice ra rk rc) ∧ Below w.heap.size w W) := by
    intro W hW
    have e0 := (hW.block w.heap.size (by omega)).trans hA
    exact ⟨by rw [Lib.cell_of_heap e0]; rfl, by rw [Lib.cell_of_heap e0]; rfl, hbA.trans (hW.mono (by omega))⟩
  have HC := hide (Check_any p _ wA (HPR.out.below hbA))
  rw [hck] at HC
  rw [hwA] at HC
  have HWA := hide hwA
  have hq12 : (Ld.kindL p.names 1).length ≤ 12 := Nat.le_trans (Ld.placesTo_le _ _ _) (Ld.check_names p hck).1
  obtain ⟨q, hqq⟩ : ∃ q, q = (Ld.kindL p.names 1).length := ⟨_, rfl⟩
  have HQ := hide hqq
  rw [← hqq] at hq12
  clear hwA hn hr hbA hA hqq hck
  go_enter Tryz.func11, Tryz.ntmps11
  go_wp2_with fail
  refine HC.out.mono ?_
  rintro e w1 ⟨er, rfl, he, hb1⟩
  obtain rfl : er = .nilIface := he
  rw [← HWA.out] at hb1
  have HB1 := hide hb1
  obtain ⟨c0, c1, hw1⟩ := HX.out w1 hb1
  have HKI := hide (Kind_any p.names (.slice na nk nc) (.slice ra rk rc) 1 w1 (HNA.out.below hw1) ⟨_, _, _, rfl⟩)
  rw [← HQ.out] at HKI
  clear hb1 HC hw1
  go_wp2_with fail
  refine HKI.out.mono ?_
  rintro e w2 ⟨kv, rfl, hown, hb2⟩
  obtain ⟨ka, kc, rfl⟩ := own_slice hown
  have HB2 := hide (HB1.out.trans (hb2.mono HB1.out.size))
  obtain ⟨d0, d1, hw2⟩ := HX.out w2 HB2.out
  have HW2 := hide hw2
  clear hown hb2 HKI c0 c1 hw2
  by_cases hq6 : 6 < q
  · have hq6' : (6 : Int) < (q : Int) := by omega
    go_wp2_with fail
    refine bodyPost_ret (results_tmp2 rfl _ _ _) rfl ?_
    exact ⟨HW2.out, by rw [if_neg (by rw [← HQ.out]; omega)]; rfl⟩
  have hq6' : ¬ (6 : Int) < (q : Int) := by omega
  have HPA := hide (partsOf_any p _ w2 (HPR.out.below HW2.out) HCK.out)
  go_wp2_with fail
  refine HPA.out.mono ?_
  rintro e w3 ⟨g, rfl, hrow, hg, hb3⟩
  have HB3 := hide (HB2.out.trans (hb3.mono HB2.out.size))
  obtain ⟨f0, f1, hw3⟩ := HX.out w3 HB3.out
  have HROW := hide hrow
  have hpl : (Mc.parts p).length = p.names.length := Mc.parts_len p
  have HSA := hide (states_any (Mc.parts p) g w3 hrow (by rw [hpl]; exact (Ld.check_names p HCK.out).1) (Mc.parts_ok p) (Mc.parts_le p HCK.out))
  rw [hpl] at HSA
  have hgl := hrow.lt
  obtain ⟨n, hnn⟩ : ∃ n, n = p.names.length := ⟨_, rfl⟩
  have HN := hide hnn
  rw [← hnn] at HSA ⊢
  clear hpl hrow hb3 HPA hw3 d0 d1 hnn
  unfold slV at *
  go_wp2_with fail
  refine HSA.out.mono ?_
  rintro e w4 ⟨rfl, hb4⟩
  have HB4 := hide (HB3.out.trans (hb4.mono HB3.out.size))
  obtain ⟨g0, g1, hw4⟩ := HX.out w4 HB4.out
  have HW4 := hide hw4
  have HROW4 := hide (HROW.out.below hb4)
  obtain ⟨S, hSS⟩ : ∃ S, S = Mc.total (Mc.parts p) := ⟨_, rfl⟩
  have HS := hide hSS
  rw [← hSS]
  clear hb4 HSA hw4 f0 f1 HROW hSS
  by_cases hS4 : S ≤ 4096
  · rw [if_pos hS4]
    have HD4 : Hid (Below w4.heap.size w4 w4.drew) := ⟨rfl, rfl, rfl, Nat.le_refl _, fun _ _ => rfl⟩
    have HCO := hide (copied_any p _ w4.drew (HPR.out.below (HW4.out.trans (HD4.out.mono HW4.out.size))))
    have hp : (2 : Nat) ^ q ≤ 2 ^ 6 := Nat.pow_le_pow_right (by decide) (by omega)
    obtain ⟨I, hII⟩ : ∃ I, I = 2 ^ q := ⟨_, rfl⟩
    have HII := hide hII
    have HP2 : Hid (IntKind.i64.wrap ((2 : Int) ^ q) = (I : Int)) := by
      show IntKind.i64.wrap _ = _
      have e : ((2 : Int) ^ q) = (I : Int) := by rw [hII, Int.natCast_pow]; rfl
      rw [e, IntKind.wrap_i64]
      rw [← hII] at hp
      omega
    rw [← hII] at hp
    clear hII
    go_wp2_with fail
    go_region_with (go_at_call 29; (with_reducible refine HCO.out.mono ?_); rintro e w5 ⟨u, rfl, hp5, hb5⟩; obtain ⟨nv5, rv5, hu5, hn5, hr5⟩ := hp5; subst hu5; obtain ⟨na5, nk5, nc5, hna5⟩ := slice_of hn5; obtain ⟨ra5, rk5, rc5, hra5⟩ := slice_ofR hr5; subst hna5; subst hra5)
    rw [HP2.out]
    obtain ⟨w6, hw6⟩ : ∃ w6, w6 = w5.alloc (.cells #[.slice na5 nk5 nc5, .slice ra5 rk5 rc5, .int .i64 (S : Int), .int .i64 (I : Int), .slice none 0 0, .slice (some ⟨g, 0, none⟩) n n, .slice none 0 0] 42) := ⟨_, rfl⟩
    have hb6 : Below w5.heap.size w5 w6 := by rw [hw6]; exact (Below.refl _ _).alloc (Nat.le_refl _) _
    have hz6 : w6.heap.size = w5.heap.size + 1 := by rw [hw6]; simp
    have hM6 : MachAt w6 w5.heap.size (.slice na5 nk5 nc5) (.slice ra5 rk5 rc5) S I (.slice none 0 0) (slV g n) (.slice none 0 0) := by rw [hw6]; exact heap_alloc_new _ _
    have hb45 : Below w4.heap.size w4 w5 := HD4.out.trans hb5
    have hr6 := (HROW4.out.below hb45).below hb6
    have hp6 : IsPrg w6 p (.agg #[.slice na5 nk5 nc5, .slice ra5 rk5 rc5]) := IsPrg.below ⟨_, _, rfl, hn5, hr5⟩ hb6
    rw [HN.out] at hM6
    have HFI := hide (fill_any w5.heap.size p _ _ g S I w6 hM6 hp6 HCK.out hr6 HS.out hS4 (by rw [HII.out, HQ.out]) (by omega))
    rw [hw6] at HFI
    have HW6 := hide hw6
    have HB46 := hide (HW4.out.trans ((hb45.trans (hb6.mono hb45.size)).mono HW4.out.size))
    have hz5 : w.heap.size ≤ w5.heap.size := Nat.le_trans HW4.out.size hb45.size
    clear hw6 hM6 hr6 hp6 hb45 hb5 hb6 hn5 hr5 HCO g0 g1
    go_wp2_with fail
    refine HFI.out.mono ?_
    rintro e w7 ⟨rfl, gN, gS, lo, uN, uS, hm, ⟨⟨hu1, hu2⟩, ht1, ht2⟩, ⟨hpr, hro⟩, hold, hsz, ho1, ho2, ho3⟩
    rw [← HW6.out] at hold hsz ho1 ho2 ho3
    have HB7 : Hid (Below w.heap.size w w7) := by
      refine HB46.out.trans ⟨ho1, ho2, ho3, hsz, fun k hk => hold k ?_ ?_⟩
      · have := HB46.out.size; omega
      · omega
    have HMA : Hid (IsMach w7 w5.heap.size p) := by
      rw [HII.out, HQ.out, HS.out] at hm ht1 ht2
      rw [HS.out] at hu1 hu2
      exact ⟨_, _, g, gN, gS, lo, uN, uS, hm, ⟨⟨hu1, hu2⟩, ht1, ht2⟩, hpr, hro⟩
    clear hm ht1 ht2 hpr hro hold HFI
    go_wp2_with fail
    refine bodyPost_ret (results_tmp2 rfl _ _ _) rfl ?_
    refine ⟨HB7.out, ?_⟩
    rw [if_pos ⟨by rw [← HQ.out]; omega, by rw [← HS.out]; exact hS4⟩]
    exact ⟨w5.heap.size, rfl, hz5, HMA.out⟩
  · rw [if_neg hS4]
    go_wp2_with fail
    refine bodyPost_ret (results_tmp2 rfl _ _ _) rfl ?_
    exact ⟨HW4.out, by rw [if_neg (by rw [← HS.out]; omega)]; rfl⟩
end
section
open Go.RowKit Go.Maps
theorem lawI : Keyed Tryz.prog 3 := int_keyed Tryz.underlying3
theorem zeroBl (w : World) : (zeroValue 4).run Tryz.prog w = .ok (.bool false) w := by kernel_rfl
theorem plain_bool_inv {P : Program} {e : TypeId} (he : P.underlying e = some .bool) {v : Value} {z : DataW Unit × List MemPlace} (h : plainElem P e v = some z) : ∃ x, v = .bool x ∧ z = (.lit (.bool x), []) := by
  unfold plainElem at h
  rw [he] at h
  cases v <;> simp at h
  exact ⟨_, rfl, h.symm⟩
/-- at each number what f tells -/
def EdgeMap (W : World) (b n : Nat) (D : DataW Unit) (f : Nat → Bool) : Prop := W.ownsMap Tryz.prog 3 (plainElem Tryz.prog 4) b n D ∧ ∀ i : Nat, D.atKey (.int .i64 (i : Int)) (.lit (.bool false)) = .lit (.bool (f i))
theorem EdgeMap.made (W : World) : EdgeMap (W.alloc (.map #[] 0)) W.heap.size 0 (.map []) (fun _ => false) := ⟨World.ownsMap_made _ _ _ _, fun _ => rfl⟩
theorem key_int (i : Nat) (hi : i ≤ 100000) : keyOf Tryz.prog 3 (.int .i64 (i : Int)) = some (.int .i64 (i : Int)) := keyOf_int_mk Tryz.underlying3 (WalkArith.wf_i64 (by omega))
theorem EdgeMap.look {W : World} {b n : Nat} {D : DataW Unit} {f : Nat → Bool} (h : EdgeMap W b n D f) (i : Nat) (hi : i ≤ 100000) : (Instr.lookup 47 (.map (some b)) (.int .i64 (i : Int)) false).run Tryz.prog W = .ok (.bool (f i)) W := by
  obtain ⟨v, ps, hrun, hv⟩ := h.1.lookup lawI Tryz.underlying47 (zeroBl W) (plainElem_bool Tryz.underlying4 false) (key_int i hi)
  obtain ⟨x, rfl, hx⟩ := plain_bool_inv Tryz.underlying4 hv
  rw [h.2 i] at hx
  simp only [Prod.mk.injEq, DataW.lit.injEq, Lit.bool.injEq] at hx
  rw [hx.1]; exact hrun
theorem EdgeMap.put {W W' : World} {b n : Nat} {D : DataW Unit} {f : Nat → Bool} (h : EdgeMap W b n D f) (i : Nat) (h' : W'.ownsMap Tryz.prog 3 (plainElem Tryz.prog 4) b (n + 1) (D.put (.int .i64 (i : Int)) (.lit (.bool true)))) : EdgeMap W' b (n + 1) (D.put (.int .i64 (i : Int)) (.lit (.bool true))) (fun j => f j || j == i) := by
  refine ⟨h', fun j => ?_⟩
  by_cases e : j = i
  · subst e
    rw [atKey_put_same h.1.isMap (by trivial)]; simp
  · rw [atKey_put_other (by simp only [ne_eq, Lit.int.injEq, true_and]; omega), h.2 j]
    have : (j == i) = false := by simpa using e
    show _ = DataW.lit (Lit.bool (f j || j == i))
    rw [this, Bool.or_false]
theorem EdgeMap.kept {W W' : World} {b n : Nat} {D : DataW Unit} {f : Nat → Bool} (h : EdgeMap W b n D f) (hb : W'.heap[b]? = W.heap[b]?) : EdgeMap W' b n D f := by
  obtain ⟨⟨es, clock, h1, h2⟩, h3⟩ := h
  exact ⟨⟨es, clock, hb.trans h1, h2⟩, h3⟩
theorem EdgeMap.lt {W : World} {b n : Nat} {D : DataW Unit} {f : Nat → Bool} (h : EdgeMap W b n D f) : b < W.heap.size := h.1.lt
end
section
open Go.RowKit Go.Maps
/-- a program of which there is a machine of few states and inputs -/
def fewP (most : Nat) : Option Ld.Prg → Option Ld.Prg
  | none => none
  | some p => if (Ld.kindL p.names 1).length ≤ 4 ∧ Mc.total (Mc.parts p) ≤ most then some p else none
def madeP (s : ByteArray) (most : Nat) : Option Ld.Prg := fewP most (readP s)
def KMade (w : World) (r : Option Ld.Prg) (e : Ending) (w' : World) : Prop := Below w.heap.size w w' ∧ match r with
  | none => e = .returned (.tuple #[.pointer none, .bool false])
  | some p => ∃ bm, e = .returned (.tuple #[.pointer (some ⟨bm, 0, none⟩), .bool true]) ∧ w.heap.size ≤ bm ∧ IsMach w' bm p ∧ Ld.check p = none
theorem ptrNeq (w : World) (a : Addr) : (binOp BinOp.neq 22 (.pointer (some a)) (.pointer none)).run Tryz.prog w = .ok (.bool true) w := by kernel_rfl
theorem total_succ (p : Ld.Prg) (k : Nat) (hk : k < p.names.length) : Mc.total ((Mc.parts p).take (k + 1)) = Mc.total ((Mc.parts p).take k) * (Mc.part p k).1 := by
  have hkl : k < (Mc.parts p).length := by rw [Mc.parts_len]; exact hk
  have e := Mc.parts_at p k hk
  rw [List.getElem?_eq_getElem hkl] at e
  rw [List.take_succ_eq_append_getElem hkl, Mc.total_snoc, Option.some.inj e]
theorem part_of (p : Ld.Prg) (k : Nat) (y : Ld.Nme) (hy : p.names[k]? = some y) (h1 : 1 ≤ y.kind) (h4 : y.kind ≤ 4) : (Mc.part p k).1 = if 3 ≤ y.kind then y.count.toNat + 1 else if y.kind = 2 then 2 else if (Ld.edges p).contains k then 2 else 1 := by
  unfold Mc.part
  rw [hy]
  simp only
  by_cases h3 : 3 ≤ y.kind
  · rw [if_pos (by omega), if_pos h3]
  · rw [if_neg (by omega), if_neg h3]
    split
    · rfl
    · split <;> rfl
set_option maxHeartbeats 8000000 in
set_option maxRecDepth 100000 in
theorem kmade_any (s : ByteArray) (most : Nat) (w : World) (hs : s.size ≤ maxLen) (hL : Laid w) (hmost : most ≤ 400) :
    Calls Tryz.prog 4 #[.string s, .int .i64 (most : Int)] w (KMade w (madeP s most)) := by
  have hmm := @run_makeMap Tryz.prog
  have HRD := hide (kread_any s w hs hL)
  obtain ⟨T, hT⟩ : ∃ T, T = readP s := ⟨_, rfl⟩
  have HMP : Hid (madeP s most = fewP most T) := by show _ = _; rw [madeP, hT]
  rw [← hT] at HRD
  clear hT hL hs
  go_enter Tryz.func4, Tryz.ntmps4
  go_wp2_with fail
  refine HRD.out.mono ?_
  intro e w1 hq
  clear HRD
  match T, hq, HMP with
  | none, hq, HMP =>
    obtain ⟨hb1, rfl⟩ := hq
    have HBA : Hid (Below w.heap.size w (w1.alloc (.cells #[.slice none 0 0, .slice none 0 0] 37))) := hb1.alloc hb1.size _
    clear hb1
    go_wp2_with fail
    refine bodyPost_ret (results_tmp2 rfl _ _ _) rfl ?_
    rw [HMP.out]
    exact ⟨HBA.out, rfl⟩
  | some p, hq, HMP =>
    obtain ⟨hb1, v, rfl, hp1, hck⟩ := hq
    have HPR := hide hp1
    have HCK := hide hck
    obtain ⟨nv, rv, rfl, hn, hr⟩ := hp1
    have HNA := hide hn
    obtain ⟨na, nc, rfl, _⟩ := hn.slice
    obtain ⟨ra, rk, rc, rfl⟩ := slice_ofR hr
    obtain ⟨n, hnn⟩ : ∃ n, n = p.names.length := ⟨_, rfl⟩
    have HN := hide hnn
    have hn12 : n ≤ 12 := by rw [hnn]; exact (Ld.check_names p hck).1
    rw [← hnn] at HPR HNA ⊢
    obtain ⟨wA, hwA⟩ : ∃ wA, wA = w1.alloc (.cells #[.slice na n nc, .slice ra rk rc] 37) := ⟨_, rfl⟩
    have hbA : Below w1.heap.size w1 wA := by rw [hwA]; exact (Below.refl _ _).alloc (Nat.le_refl _) _
    have hsA : wA.heap.size = w1.heap.size + 1 := by rw [hwA]; simp
    have hA : wA.heap[w1.heap.size]? = some (.cells #[.slice na n nc, .slice ra rk rc] 37 (0, 0)) := by rw [hwA]; exact heap_alloc_new _ _
    have HX : Hid (∀ W, Below wA.heap.size wA W → W.cell? ⟨w1.heap.size, 0, none⟩ = some (.slice na n nc) ∧ W.cell? ⟨w1.heap.size, 1, none⟩ = some (.slice ra rk rc) ∧ Below w1.heap.size w1 W) := by
      intro W hW
      have e0 := (hW.block w1.heap.size (by omega)).trans hA
      exact ⟨by rw [Lib.cell_of_heap e0]; rfl, by rw [Lib.cell_of_heap e0]; rfl, hbA.trans (hW.mono (by omega))⟩
    have HKI := hide (Kind_any p.names (.slice na n nc) (.slice ra rk rc) 1 wA (HNA.out.below hbA) ⟨_, _, _, rfl⟩)
    rw [hwA] at HKI
    obtain ⟨q, hqq⟩ : ∃ q, q = (Ld.kindL p.names 1).length := ⟨_, rfl⟩
    have HQ := hide hqq
    have hq12 : q ≤ 12 := by rw [hqq]; exact Nat.le_trans (Ld.placesTo_le _ _ _) (Ld.check_names p hck).1
    rw [← hqq] at HKI
    have HWA := hide hwA
    have HB1 := hide hb1
    clear hwA hbA hA hqq hn hr hnn hck hb1
    go_wp2_with fail
    refine HKI.out.mono ?_
    rintro e w2 ⟨kv, rfl, hown, hb2⟩
    obtain ⟨ka, kc, rfl⟩ := own_slice hown
    rw [← HWA.out] at hb2
    have HB2 := hide hb2
    clear hown hb2 HKI
    by_cases hq4 : 4 < q
    · have hq4' : (4 : Int) < (q : Int) := by omega
      go_wp2_with fail
      refine bodyPost_ret (results_tmp2 rfl _ _ _) rfl ?_
      rw [HMP.out]
      exact ⟨HB1.out.trans ((HX.out _ HB2.out).2.2.mono HB1.out.size), by simp only [fewP]; rw [if_neg (by rw [← HQ.out]; omega)]; rfl⟩
    have hq4' : ¬ (4 : Int) < (q : Int) := by omega
    obtain ⟨wM, hwM⟩ : ∃ wM, wM = w2.alloc (.map #[] 0) := ⟨_, rfl⟩
    have hbM : Below w2.heap.size w2 wM := by rw [hwM]; exact (Below.refl _ _).alloc (Nat.le_refl _) _
    have HBM : Hid (Below wA.heap.size wA wM) := HB2.out.trans (hbM.mono HB2.out.size)
    have HBM2 := hide hbM
    have hsM : wM.heap.size = w2.heap.size + 1 := by rw [hwM]; simp
    have HEM : Hid (EdgeMap wM w2.heap.size 0 (.map []) (fun _ => false)) := by rw [hwM]; exact EdgeMap.made w2
    obtain ⟨d0, d1, hwm⟩ := HX.out wM HBM.out
    have HED := hide (LEdges_any p _ wM (HPR.out.below hwm) HCK.out)
    have HSA := hide hsA
    have hs2 : w1.heap.size < w2.heap.size := by have := HB2.out.size; omega
    have d0' : (w2.alloc (.map #[] 0)).cell? ⟨w1.heap.size, 0, none⟩ = some (.slice na n nc) := by rw [← hwM]; exact d0
    have d1' : (w2.alloc (.map #[] 0)).cell? ⟨w1.heap.size, 1, none⟩ = some (.slice ra rk rc) := by rw [← hwM]; exact d1
    rw [hwM] at HED
    have HWM := hide hwM
    clear hwM hbM hwm d0 d1 hsA
    go_wp2_with fail
    refine HED.out.mono ?_
    rintro e w3 ⟨u, rfl, hown, hb3⟩
    rw [← HWM.out] at hown hb3
    obtain ⟨ea, ec, rfl⟩ := own_slice hown
    obtain ⟨m, hmE⟩ : ∃ m, m = (Ld.edges p).length := ⟨_, rfl⟩
    have HME := hide hmE
    have HCE : Hid (∀ k, k < m → ∃ ga, ea = some ⟨ga, 0, none⟩ ∧ m ≤ ec ∧ ga ≠ w2.heap.size ∧ ∀ (j x : Nat), (Ld.edges p)[j]? = some x → w3.cell? ⟨ga, j, none⟩ = some (.int .i64 (x : Int))) := by
      intro k hk
      rcases hown.2 with ⟨_, h0⟩ | ⟨g, cap, cur, h1, hg, hcur, hcap, _, _, htk⟩
      · omega
      · simp only [Value.slice.injEq] at h1
        exact ⟨g, h1.1, by rw [h1.2.2, hmE]; exact hcap, by omega, fun j x hj => row_cell hcur htk (by rw [List.getElem?_map, hj]; rfl)⟩
    have HE3 := hide (HEM.out.kept (hb3.block w2.heap.size (by omega)))
    have HB3 := hide (HBM.out.trans (hb3.mono HBM.out.size))
    have HB23 := hide (HBM2.out.trans (hb3.mono HBM2.out.size))
    have hs3 : w2.heap.size < w3.heap.size := by have := hb3.size; omega
    have hm1 : m ≤ 12 := by rw [hmE]; exact Nat.le_trans (Ld.placesTo_le _ _ _) (Ld.check_names p HCK.out).1
    have HEL : Hid (∀ (j x : Nat), (Ld.edges p)[j]? = some x → x ≤ 100000) := by
      intro j x hj
      have := List.mem_of_getElem? hj
      unfold Ld.edges Ld.placesTo at this
      have := List.mem_range.1 (List.mem_filter.1 this).1
      have h2 := (Ld.check_names p HCK.out).1
      omega
    rw [← hmE]
    clear hmE hown hb3 HED HEM d0' d1'
    go_wp2_with fail
    go_loopw [10] (fun i wr => ∃ k : Nat, k ≤ m ∧ i = .int .i64 (k : Int) ∧ Hid (∃ D, EdgeMap wr w2.heap.size k D (fun x => ((Ld.edges p).take k).contains x)) ∧ Hid (w3.heap.size ≤ wr.heap.size ∧ ∀ b, b < w3.heap.size → b ≠ w2.heap.size → wr.heap[b]? = w3.heap[b]?) ∧ Hid (Below w2.heap.size w2 wr)) (fun i _ => m - (intOf i).toNat)
    case atStart => exact ⟨0, Nat.zero_le _, rfl, ⟨_, HE3.out⟩, ⟨Nat.le_refl _, fun _ _ _ => rfl⟩, HB23.out⟩
    case round =>
      obtain ⟨k, hk, rfl, HED, HOLD, HB⟩ := hrel
      by_cases hlt : k < m
      · obtain ⟨ga, rfl, hcap, hga, hcells⟩ := HCE.out k hlt
        have hkE : k < (Ld.edges p).length := by rw [← HME.out]; exact hlt
        have hxk := List.getElem?_eq_getElem hkE
        have c3 := hcells k _ hxk
        have hx5 := HEL.out k _ hxk
        have hg3 : ga < w3.heap.size := World.block_lt_of_cell? _ _ c3
        have c0 : wr.cell? ⟨ga, k, none⟩ = some (.int .i64 ((Ld.edges p)[k] : Int)) := (World.cell?_of_block (w' := wr) (w := w3) (HOLD.out.2 ga hg3 hga)).trans c3
        obtain ⟨D, hem⟩ := HED.out
        have HEMK := hide hem
        have HTK := hide (List.take_succ_eq_append_getElem hkE)
        generalize (Ld.edges p)[k] = x at *
        clear c3 hcells hxk
        go_wp2_with (first | (at_mapUpdate; refine wpList_mapUpdate_own _ rfl _ _ _ 47 rfl 3 4 lawI Tryz.underlying47 _ w2.heap.size k _ rfl HEMK.out.1 (by unfold maxLen; omega) _ _ _ rfl rfl (key_int x hx5) _ [] (plainElem_bool Tryz.underlying4 true) ?_; intro w4 hown4 hgrow4) | fail)
        have HE4 := hide (hem.put x hown4)
        go_roundw
        case rel =>
          refine ⟨k + 1, by omega, by go_num, ⟨D.put (.int .i64 (x : Int)) (.lit (.bool true)), ?_⟩, ⟨Nat.le_trans HOLD.out.1 hgrow4.size, fun b hb hne => ?_⟩, HB.out.grown hgrow4 HB.out.size (fun j hj => by cases hj; exact Nat.le_refl _)⟩
          · have e : (fun y => ((Ld.edges p).take (k + 1)).contains y) = (fun y => ((Ld.edges p).take k).contains y || y == x) := by
              funext y; rw [HTK.out]; simp only [List.contains_append, List.contains_cons, List.contains_nil, Bool.or_false]
            rw [e]; exact HE4.out
          · exact (hgrow4.block b (Nat.lt_of_lt_of_le hb HOLD.out.1) (by intro e; cases e; exact hne rfl)).trans (HOLD.out.2 b hb hne)
        case measure => simp [intOf]; omega
      · have hkm : k = m := by omega
        subst hkm
        obtain ⟨D, hem⟩ := HED.out
        rw [List.take_of_length_le (by rw [← HME.out]; exact Nat.le_refl _)] at hem
        obtain ⟨wo, rfl⟩ : ∃ wo, wo = wr := ⟨_, rfl⟩
        have hw2o : w2.heap.size < wo.heap.size := hem.lt
        have HEMO := hide hem
        have HBO : Hid (Below wA.heap.size wA wo) := HB2.out.trans (HB.out.mono HB2.out.size)
        clear hem HED
        go_wp2_with fail
        go_loopw [8, 12] (fun c i wr => ∃ j : Nat, j ≤ n ∧ i = .int .i64 (j : Int) ∧ c = .int .i64 (Mc.total ((Mc.parts p).take j) : Int) ∧ Mc.total ((Mc.parts p).take j) ≤ 3200 ∧ Hid (Below wo.heap.size wo wr)) (fun _ i _ => n - (intOf i).toNat)
        case atStart => exact ⟨0, Nat.zero_le _, rfl, rfl, by simp [Mc.total], Below.refl _ _⟩
        case round =>
          obtain ⟨j, hj, rfl, rfl, h32, HBJ⟩ := hrel
          have hbJ : Below wA.heap.size wA wr := HBO.out.trans (HBJ.out.mono HBO.out.size)
          obtain ⟨d0, d1, hwJ⟩ := HX.out wr hbJ
          have hw1r : w1.heap.size < wr.heap.size := World.block_lt_of_cell? _ _ d0
          by_cases hbig : most < Mc.total ((Mc.parts p).take j)
          · have hbi : ¬ ((Mc.total ((Mc.parts p).take j) : Int) ≤ (most : Int)) := by omega
            have hbi2 : (most : Int) < (Mc.total ((Mc.parts p).take j) : Int) := by omega
            have HNO : Hid (¬ Mc.total (Mc.parts p) ≤ most) := by
              have := Mc.total_le (Mc.parts p) (Mc.parts_ok p) j
              show ¬ _; omega
            have HBW := hide (HB1.out.trans (hwJ.mono HB1.out.size))
            clear hbJ hwJ
            generalize Mc.total ((Mc.parts p).take j) = c at *
            go_wp2_with fail
            all_goals
              refine bodyPost_ret (results_tmp2 rfl _ _ _) rfl ?_
              rw [HMP.out]
              exact ⟨HBW.out, by simp only [fewP]; rw [if_neg (fun h => HNO.out h.2)]; rfl⟩
          have hbi : (Mc.total ((Mc.parts p).take j) : Int) ≤ (most : Int) := by omega
          by_cases hlt : j < n
          · have hjl : j < p.names.length := by rw [← HN.out]; exact hlt
            have hyj := List.getElem?_eq_getElem hjl
            obtain ⟨gn, hna, hcn, y1, y2, y3, y4, y5, y6⟩ : ∃ g, na = some ⟨g, 0, none⟩ ∧ n ≤ nc ∧ NameAt wr g j p.names[j] := by
              rcases HNA.out.below hwJ with ⟨h0, _⟩ | ⟨g, cap, h1, h2, h3, h4⟩
              · rw [h0] at hjl; simp at hjl
              · simp only [Value.slice.injEq] at h1
                exact ⟨g, h1.1, by rw [h1.2.2, h1.2.1]; exact h2, h4 j _ hyj⟩
            subst hna
            obtain ⟨m1, m4, m3, m2⟩ := Sc.may p HCK.out j hjl
            have HTS := hide (total_succ p j hjl)
            have HPO := hide (part_of p j _ hyj m1 m4)
            have hgn : gn < wr.heap.size := World.block_lt_of_cell? _ _ y1
            have HBN : Hid (∀ o, Below wo.heap.size wo (wr.alloc o)) := fun o => HBJ.out.alloc HBJ.out.size o
            have HEMR : Hid (∀ o, EdgeMap (wr.alloc o) w2.heap.size k D (fun x => (Ld.edges p).contains x)) := fun o => HEMO.out.kept ((HBN.out o).block _ hw2o)
            generalize p.names[j] = y at *
            obtain ⟨ynm, yk, yc⟩ := y
            simp only at y1 y2 y3 y4 y5 y6 m1 m2 m3 m4 HPO
            have lk := fun o => (HEMR.out o).look j (by omega)
            obtain ⟨eb, heb⟩ : ∃ eb, eb = (Ld.edges p).contains j := ⟨_, rfl⟩
            rw [← heb] at HPO
            simp only [← heb] at lk
            obtain ⟨c, hc⟩ : ∃ c, c = Mc.total ((Mc.parts p).take j) := ⟨_, rfl⟩
            rw [← hc] at HTS hbi hbig h32 ⊢
            have hc4 : c ≤ 400 := by omega
            clear hbJ hwJ hyj heb hc
            rcases (show yk = 1 ∨ yk = 2 ∨ 3 ≤ yk by omega) with e | e | e
            · subst e
              have HP1 := HPO.out
              rw [if_neg (by decide), if_neg (by decide)] at HP1
              cases eb with
              | true =>
                have HT2 : Hid (Mc.total ((Mc.parts p).take (j + 1)) = c * 2) := by have := HTS.out; rw [HP1] at this; exact this
                clear HP1
                go_wp2_with fail
                exact ⟨⟨j + 1, by omega, by go_num, by rw [HT2.out]; go_num, by rw [HT2.out]; omega, HBN.out _⟩, by simp [intOf]; omega⟩
              | false =>
                have HT2 : Hid (Mc.total ((Mc.parts p).take (j + 1)) = c) := by show _ = _; have := HTS.out; rw [HP1] at this; simpa using this
                clear HP1
                go_wp2_with fail
                exact ⟨⟨j + 1, by omega, by go_num, by rw [HT2.out], by rw [HT2.out]; omega, HBN.out _⟩, by simp [intOf]; omega⟩
            · subst e
              have HP1 := HPO.out
              rw [if_neg (by decide), if_pos rfl] at HP1
              have HT2 : Hid (Mc.total ((Mc.parts p).take (j + 1)) = c * 2) := by have := HTS.out; rw [HP1] at this; exact this
              clear HP1 lk
              go_wp2_with fail
              exact ⟨⟨j + 1, by omega, by go_num, by rw [HT2.out]; go_num, by rw [HT2.out]; omega, HBN.out _⟩, by simp [intOf]; omega⟩
            · have HP1 := HPO.out
              rw [if_pos e] at HP1
              obtain ⟨m5, m6⟩ := m3 e
              obtain ⟨t, ht⟩ : ∃ t, t = c * (yc.toNat + 1) := ⟨_, rfl⟩
              have HT2 : Hid (Mc.total ((Mc.parts p).take (j + 1)) = t) := by have := HTS.out; rw [HP1, ← ht] at this; exact this
              have htb : t ≤ 3200 := by
                have h8 : yc.toNat + 1 ≤ 8 := by omega
                have := Nat.mul_le_mul hc4 h8
                omega
              have hti : (c : Int) * (yc + 1) = (t : Int) := by
                rw [ht, Int.natCast_mul]
                have : ((yc.toNat + 1 : Nat) : Int) = yc + 1 := by omega
                rw [this]
              have e1 : ¬ yk = 1 := by omega
              have e2 : ¬ yk = 2 := by omega
              clear HP1 lk ht
              go_wp2_with fail
              exact ⟨⟨j + 1, by omega, by go_num, by rw [HT2.out], by rw [HT2.out]; omega, HBN.out _⟩, by simp [intOf]; omega⟩
          · have hjn : j = n := by omega
            subst hjn
            have eT : (Mc.parts p).take j = Mc.parts p := List.take_of_length_le (by rw [Mc.parts_len, ← HN.out]; exact Nat.le_refl _)
            rw [eT] at hbi hbig h32 ⊢
            have HOF := hide (Of_any p _ wr (HPR.out.below hwJ) HCK.out)
            have HBW := hide (HB1.out.trans (hwJ.mono HB1.out.size))
            have HMP2 : Hid (madeP s most = some p) := by
              have := HMP.out
              simp only [fewP] at this
              rw [if_pos ⟨by rw [← HQ.out]; omega, by omega⟩] at this
              exact this
            have HIF : Hid ((Ld.kindL p.names 1).length ≤ 6 ∧ Mc.total (Mc.parts p) ≤ 4096) := ⟨by rw [← HQ.out]; omega, by omega⟩
            have pq := fun w a => ptrNeq w a
            clear hbJ hwJ eT
            have hbi3 : ¬ ((most : Int) < (Mc.total (Mc.parts p) : Int)) := by omega
            generalize hcT : Mc.total (Mc.parts p) = c at hbi hbig h32 hbi3 ⊢
            have HCT := hide hcT
            clear hcT
            go_wp2_with fail
            refine HOF.out.mono ?_
            rintro e w5 ⟨hb5, hres⟩
            rw [if_pos HIF.out] at hres
            obtain ⟨bm, rfl, hbm, hmach⟩ := hres
            have HB5 := hide (HBW.out.trans (hb5.mono HBW.out.size))
            have HMA := hide hmach
            have hz := HBW.out.size
            clear hb5 hmach HOF
            go_wp2_with fail
            refine bodyPost_ret (results_tmp2 rfl _ _ _) rfl ?_
            rw [HMP2.out]
            exact ⟨HB5.out, bm, rfl, by omega, HMA.out, HCK.out⟩
end
section
open Go.RowKit
theorem IsMach.next {W : World} {bm : Nat} {p : Ld.Prg} (h : IsMach W bm p) : ∃ gN uN, NextAt W bm (Mc.total (Mc.parts p)) (2 ^ (Ld.kindL p.names 1).length) (Mc.nexts p) gN uN := by
  obtain ⟨nv, rv, g, gN, gS, lo, uN, uS, h1, ⟨⟨h2, _⟩, h3, _⟩, _⟩ := h
  refine ⟨gN, uN, h1.cells.2.2.1, h2, fun s b hs => ⟨h3.cell s b hs, fun i x hx => ?_⟩⟩
  have hr := (h3.row s b hs).1
  rw [Mc.nexts_row] at hr
  exact hr.cell i _ (by rw [List.getElem?_map, hx]; rfl)
end
section
open Go.RowKit
/-- the table and the sizes of a machine, as one reads them -/
theorem IsMach.sizes {W : World} {bm : Nat} {p : Ld.Prg} (h : IsMach W bm p) : W.cell? ⟨bm, 2, none⟩ = some (.int .i64 (Mc.total (Mc.parts p) : Int)) ∧ W.cell? ⟨bm, 3, none⟩ = some (.int .i64 ((2 ^ (Ld.kindL p.names 1).length : Nat) : Int)) := by
  obtain ⟨nv, rv, g, gN, gS, lo, uN, uS, h1, _⟩ := h
  exact ⟨h1.cells.2.1.1, h1.cells.2.1.2⟩
theorem made_few {s : ByteArray} {most : Nat} {p : Ld.Prg} (h : some p = madeP s most) : (Ld.kindL p.names 1).length ≤ 4 ∧ Mc.total (Mc.parts p) ≤ most := by
  unfold madeP at h
  cases hr : readP s with
  | none => rw [hr] at h; simp [fewP] at h
  | some p' =>
    rw [hr] at h
    simp only [fewP] at h
    split at h
    · rename_i hx; cases h; exact hx
    · cases h
end
end Go.Proofs.YtglmpkpcbafgdaaGreatDoor
