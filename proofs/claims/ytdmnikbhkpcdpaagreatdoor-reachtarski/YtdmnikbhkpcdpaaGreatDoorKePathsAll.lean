/-
  Plain facts: where a latch's machine comes to. The walk of the statements' own reached: where a latch comes to. The walk of the statement ReachPaths.
-/
import Derived.Test.YtdmnikbhkpcdpaaGreatDoorRcMachAll
import Derived.Test.YtdmnikbhkpcdpaaGreatDoorRcRowAll
import Derived.Test.YtdmnikbhkpcdpaaGreatDoorKePickAll
import Derived.Test.YtdmnikbhkpcdpaaGreatDoorRcPthMAll
import Derived.Test.YtdmnikbhkpcdpaaGreatDoorRcPath
import Derived.Test.YtdmnikbhkpcdpaaGreatDoorMcD7All
import Derived.Test.YtdmnikbhkpcdpaaGreatDoorLdTakeNAll
namespace Go.Proofs.YtdmnikbhkpcdpaaGreatDoor
section
theorem map_intV_inj {a b : List Nat} (h : a.map intV = b.map intV) : a = b := by
  induction a generalizing b with
  | nil => cases b with
    | nil => rfl
    | cons y b => cases h
  | cons x a ih => cases b with
    | nil => cases h
    | cons y b =>
      simp only [List.map_cons, List.cons.injEq, intV, Value.int.injEq, true_and] at h
      rw [ih h.2]
      have : x = y := by omega
      rw [this]
theorem lit_n0 : Mc.nexts Ld.lit 0 = [0, 1] := by
  apply map_intV_inj
  have h := Mc.nexts_row Ld.lit 0
  rw [lit_q, show (2 ^ 1 : Nat) = 2 from rfl, lit_next0] at h
  exact h.symm
theorem lit_n1 : Mc.nexts Ld.lit 1 = [1, 1] := by
  apply map_intV_inj
  have h := Mc.nexts_row Ld.lit 1
  rw [lit_q, show (2 ^ 1 : Nat) = 2 from rfl, lit_next1] at h
  exact h.symm
theorem lit_walk (next : Nat → List Nat) (h0 : next 0 = [0, 1]) (h1 : next 1 = [1, 1]) : Rc.walk next 2 = ⟨[⟨0, 0, 0⟩, ⟨1, 0, 1⟩], [0, 1]⟩ := by
  have e1 : Rc.rounds next (Rc.begin 2) 1 = ⟨[⟨0, 0, 0⟩, ⟨1, 0, 1⟩], [0, 1]⟩ := by
    show Rc.seesTo (next 0) 0 (Rc.begin 2) (next 0).length = _
    rw [h0]; rfl
  show (match (Rc.rounds next (Rc.begin 2) 1).met[1]? with
    | some f => Rc.seesTo (next f) f (Rc.rounds next (Rc.begin 2) 1) (next f).length
    | none => Rc.rounds next (Rc.begin 2) 1) = _
  rw [e1]
  show Rc.seesTo (next 1) 1 ⟨[⟨0, 0, 0⟩, ⟨1, 0, 1⟩], [0, 1]⟩ (next 1).length = _
  rw [h1]; rfl
theorem lit_grown (next : Nat → List Nat) (h1 : next 1 = [1, 1]) : Rc.Grown 2 (Rc.Some next) [true, false] [true, false] := by
  have key : ∀ s, s < 2 → Rc.Has [true, false] s → s = 0 := fun s hs h => by
    rcases (show s = 0 ∨ s = 1 by omega) with rfl | rfl
    · rfl
    · cases h
  refine ⟨rfl, fun _ _ h => h, ?_, fun X h _ s hs hh => h s hs hh⟩
  rintro s hs ⟨t, ht, hh⟩
  rcases (show s = 0 ∨ s = 1 by omega) with rfl | rfl
  · rfl
  · rw [h1] at ht
    simp only [List.mem_cons, List.not_mem_nil, or_false, or_self] at ht
    subst ht
    exact absurd hh (by intro h; cases h)
end
section
open Go.RowKit
theorem ints_one {W : World} {b : Nat} {x : Int} (h : RowIs W b 3 [.int .i64 x]) (hx : I64 x) : Ints W (.slice (some ⟨b, 0, none⟩) 1 1) [x] :=
  ints_row (l := [x]) h (fun z hz => by
    simp only [List.mem_cons, List.not_mem_nil, or_false] at hz
    subst hz; exact hx)
theorem bools_two {W : World} {b : Nat} {x y : Bool} (h : RowIs W b 4 [.bool x, .bool y]) : Bools W (.slice (some ⟨b, 0, none⟩) 2 2) [x, y] := bools_row (l := [x, y]) h (by simp)
set_option maxHeartbeats 4000000 in
set_option maxRecDepth 100000 in
theorem reached_any (w : World) (hL : Laid w) : Calls Tryz.prog 19 #[] w fun e w' => e = .returned (.bool true) ∧ Below w.heap.size w w' := by
  have HM := hide (kmade_any ⟨#[105, 110, 112, 117, 116, 32, 97, 10, 99, 111, 105, 108, 32, 109, 10, 115, 101, 116, 32, 109, 32, 61, 32, 97, 10]⟩ 9 w (by decide) hL (by omega))
  rw [lit_made 9 (by omega)] at HM
  clear hL
  go_enter Tryz.func19, Tryz.ntmps19
  go_wp2_with fail
  refine HM.out.mono ?_
  rintro e w1 ⟨hb1, bm, rfl, hbm, hmach, hck⟩
  have HB1 := hide hb1
  obtain ⟨gN, uN, hna⟩ := hmach.next
  rw [lit_q, lit_total, show (2 ^ 1 : Nat) = 2 from rfl] at hna
  have hnl : ∀ s, (Mc.nexts Ld.lit s).length = 2 := fun s => by rw [Mc.nexts_len, lit_q]
  have hnx : ∀ f s, f < 2 → s ∈ Mc.nexts Ld.lit f → s < 2 := fun f s _ hs => by have := Mc.nexts_lt Ld.lit hck f s hs; rw [lit_total] at this; exact this
  have HNA := hide hna
  have HNL := hide hnl
  have HNX := hide hnx
  have HFA := hide (Far_any bm 2 2 gN (Mc.nexts Ld.lit) uN w1 hna (by decide) (by decide) (by decide) hnl hnx)
  have HWK := hide (lit_walk (Mc.nexts Ld.lit) lit_n0 lit_n1)
  clear hb1 hmach hck hna hnl hnx HM
  go_wp2_with fail
  refine HFA.out.mono ?_
  rintro e w2 ⟨g2, rfl, hrow2, hg2, hb2⟩
  rw [HWK.out] at hrow2
  have HB2 := hide hb2
  have HR2 : Hid (RowIs w2 g2 3 [.int .i64 0, .int .i64 1]) := hrow2
  have HPA := hide (Path_any bm 2 2 gN (Mc.nexts Ld.lit) uN 1 w2 (HNA.out.below hb2) (by decide) (by decide) (by decide) HNL.out HNX.out (by decide))
  rw [HWK.out] at HPA
  unfold slV
  clear hb2 hrow2 HFA
  go_wp2_with fail
  refine HPA.out.mono ?_
  rintro e w3 ⟨hb3, hp3⟩
  rw [if_neg (by decide)] at hp3
  obtain ⟨g3, rfl, hrow3, hg3⟩ := hp3
  have HR3 : Hid (RowIs w3 g3 3 [.int .i64 1]) := hrow3
  have HB3 := hide (HB2.out.trans (hb3.mono HB2.out.size))
  have HR2b := hide (HR2.out.below hb3)
  obtain ⟨w4, hw4⟩ : ∃ w4, w4 = w3.alloc (.cells #[.bool false, .bool true] 4) := ⟨_, rfl⟩
  have hb4 : Below w3.heap.size w3 w4 := by rw [hw4]; exact (Below.refl _ _).alloc (Nat.le_refl _) _
  have hb14 : Below w1.heap.size w1 w4 := HB3.out.trans (hb4.mono HB3.out.size)
  have HB4 := hide hb14
  have HB34 := hide hb4
  have HST := hide (Stays_any bm 2 2 gN (Mc.nexts Ld.lit) uN _ [false, true] w4 (HNA.out.below hb14) (by decide) (by decide) (by decide) (by decide) HNL.out HNX.out (bools_two (b := w3.heap.size) (by rw [hw4]; exact RowIs.new w3 4 [.bool false, .bool true])) rfl)
  have HW4 := hide hw4
  rw [hw4] at HST
  have e1 : (Rc.Qu.at_ ⟨[⟨0, 0, 0⟩, ⟨1, 0, 1⟩], [0, 1]⟩ 1).far.toNat = 1 := rfl
  unfold slV
  rw [e1]
  clear hw4 hb4 hb14 hb3 hrow3 HPA e1
  go_wp2_with fail
  refine HST.out.mono ?_
  rintro e w5 ⟨g5, r, rfl, hgr, hrow5, hg5, hb5⟩
  rw [← HW4.out] at hg5 hb5
  have hrr : r = [true, false] := hgr.one (lit_grown (Mc.nexts Ld.lit) lit_n1)
  rw [hrr] at hrow5
  have HR5 : Hid (RowIs w5 g5 4 [.bool false, .bool true]) := hrow5
  have HB35 := hide (HB34.out.trans (hb5.mono HB34.out.size))
  have HB5 := hide (HB4.out.trans (hb5.mono HB4.out.size))
  obtain ⟨w6, hw6⟩ : ∃ w6, w6 = w5.alloc (.cells #[.int .i64 0, .int .i64 1] 3) := ⟨_, rfl⟩
  have hb6 : Below w5.heap.size w5 w6 := by rw [hw6]; exact (Below.refl _ _).alloc (Nat.le_refl _) _
  have HS1 := hide (sameI_any [0, 1] _ _ w6 (ints_two ((HR2b.out.below HB35.out).below hb6) (i64_small _ (by decide)) (i64_small _ (by decide))) (ints_two (b := w5.heap.size) (by rw [hw6]; exact RowIs.new w5 3 [.int .i64 0, .int .i64 1]) (i64_small _ (by decide)) (i64_small _ (by decide))) (by decide))
  have HW6 := hide hw6
  have HB56 := hide hb6
  rw [hw6] at HS1
  clear hw6 hb6 hb5 hrow5 hgr hrr HST
  go_wp2_with fail
  refine HS1.out.mono ?_
  rintro e w7 ⟨rfl, hb7⟩
  rw [← HW6.out] at hb7
  have HB57 := hide (HB56.out.trans (hb7.mono HB56.out.size))
  obtain ⟨w8, hw8⟩ : ∃ w8, w8 = w7.alloc (.cells #[.int .i64 1] 3) := ⟨_, rfl⟩
  have hb8 : Below w7.heap.size w7 w8 := by rw [hw8]; exact (Below.refl _ _).alloc (Nat.le_refl _) _
  have HS2 := hide (sameI_any [1] _ _ w8 (ints_one (((HR3.out.below HB35.out).below HB57.out).below hb8) (i64_small _ (by decide))) (ints_one (b := w7.heap.size) (by rw [hw8]; exact RowIs.new w7 3 [.int .i64 1]) (i64_small _ (by decide))) (by decide))
  have HW8 := hide hw8
  have HB58 := hide (HB57.out.trans (hb8.mono HB57.out.size))
  rw [hw8] at HS2
  clear hw8 hb8 hb7 HS1
  go_wp2_with fail
  refine HS2.out.mono ?_
  rintro e w9 ⟨rfl, hb9⟩
  rw [← HW8.out] at hb9
  have HB59 := hide (HB58.out.trans (hb9.mono HB58.out.size))
  obtain ⟨wa, hwa⟩ : ∃ wa, wa = w9.alloc (.cells #[.bool false, .bool true] 4) := ⟨_, rfl⟩
  have hba : Below w9.heap.size w9 wa := by rw [hwa]; exact (Below.refl _ _).alloc (Nat.le_refl _) _
  have HS3 := hide (sameB_any [false, true] _ _ wa (bools_two ((HR5.out.below HB59.out).below hba)) (bools_two (b := w9.heap.size) (by rw [hwa]; exact RowIs.new w9 4 [.bool false, .bool true])))
  have HBa := hide (HB1.out.trans ((HB5.out.trans ((HB59.out.trans (hba.mono HB59.out.size)).mono HB5.out.size)).mono HB1.out.size))
  rw [hwa] at HS3 HBa
  clear hwa hba hb9 HS2
  go_wp2_with fail
  refine HS3.out.mono ?_
  rintro e wb ⟨rfl, hbb⟩
  have HBb := hide (HBa.out.trans (hbb.mono HBa.out.size))
  clear hbb HS3
  go_wp2_with fail
  go_ret
  exact ⟨rfl, HBb.out⟩
end
section
open Go.RowKit
/-- the table and the sizes of a machine, as one reads them -/
theorem IsMach.sizes {W : World} {bm : Nat} {p : Ld.Prg} (h : IsMach W bm p) : W.cell? ⟨bm, 2, none⟩ = some (.int .i64 (Mc.total (Mc.parts p) : Int)) ∧ W.cell? ⟨bm, 3, none⟩ = some (.int .i64 ((2 ^ (Ld.kindL p.names 1).length : Nat) : Int)) := by
  obtain ⟨nv, rv, g, gN, gS, lo, uN, uS, h1, _⟩ := h
  exact ⟨h1.cells.2.1.1, h1.cells.2.1.2⟩
theorem made_few {s : ByteArray} {most : Nat} {p : Ld.Prg} (h : some p = madeP s most) : (Ld.kindL p.names 1).length ≤ 4 ∧ Mc.total (Mc.parts p) ≤ most := by
  unfold madeP at h
  cases hr : readP s with
  | none => rw [hr] at h; simp [fewP] at h
  | some p' =>
    rw [hr] at h
    simp only [fewP] at h
    split at h
    · rename_i hx; cases h; exact hx
    · cases h
set_option maxHeartbeats 8000000 in
set_option maxRecDepth 100000 in
theorem reachPaths_any (s : ByteArray) (x : Int) (w : World) (hs : s.size ≤ maxLen) (hL : Laid w) :
    Calls Tryz.prog 4 #[.string s, .int .i64 x] w fun e w' => e = .returned (.bool true) ∧ Below w.heap.size w w' := by
  have HL := hide hL
  have HMD := hide (kmade_any s 300 w hs hL (by omega))
  obtain ⟨T, hT⟩ : ∃ T, T = madeP s 300 := ⟨_, rfl⟩
  rw [← hT] at HMD
  have HT := hide hT
  clear hT hs hL
  go_enter Tryz.func4, Tryz.ntmps4
  go_wp2_with fail
  refine HMD.out.mono ?_
  intro e w1 hq
  clear HMD
  match T, hq, HT with
  | none, hq, _ =>
    obtain ⟨hb1, rfl⟩ := hq
    have HMC := hide (reached_any w1 (HL.out.below hb1))
    have HB1 := hide hb1
    clear hb1
    go_wp2_with fail
    refine HMC.out.mono ?_
    rintro e w2 ⟨rfl, hb2⟩
    have HB2 := hide (HB1.out.trans (hb2.mono HB1.out.size))
    clear hb2 HMC
    go_wp2_with fail
    go_ret
    exact ⟨rfl, HB2.out⟩
  | some p, hq, HT =>
    obtain ⟨hb1, bm, rfl, hbm, hmach, hck⟩ := hq
    have HB1 := hide hb1
    obtain ⟨hq4, hS3⟩ := made_few HT.out
    obtain ⟨gN, uN, hna⟩ := hmach.next
    obtain ⟨c2, c3⟩ := hmach.sizes
    have hnl := fun s => Mc.nexts_len p s
    have hnx : ∀ f s, f < Mc.total (Mc.parts p) → s ∈ Mc.nexts p f → s < Mc.total (Mc.parts p) := fun f s _ hs => Mc.nexts_lt p hck f s hs
    have hS1 := Mc.total_pos (Mc.parts p) (Mc.parts_ok p)
    have hI16 : 2 ^ (Ld.kindL p.names 1).length ≤ 16 := Nat.pow_le_pow_right (n := 2) (by decide) hq4
    have hI1 : 1 ≤ 2 ^ (Ld.kindL p.names 1).length := Nat.pow_pos (by decide)
    clear hmach hck HT hq4 hb1
    generalize Mc.total (Mc.parts p) = S at *
    generalize 2 ^ (Ld.kindL p.names 1).length = I at *
    generalize Mc.nexts p = next at *
    have HNA := hide hna
    have HNL := hide hnl
    have HNX := hide hnx
    have HF := hide (Rc.walk_far next S hS1 hnx)
    have HFA := hide (Far_any bm S I gN next uN w1 hna hS1 (by omega) (by omega) hnl hnx)
    obtain ⟨q, hqq⟩ : ∃ q, q = Rc.walk next S := ⟨_, rfl⟩
    have HQ := hide hqq
    rw [← hqq] at HF
    have hbl : bm < w1.heap.size := World.block_lt_of_cell? _ _ c2
    clear hna hnl hnx hqq
    go_wp2_with fail
    refine HFA.out.mono ?_
    rintro e w2 ⟨gF, rfl, hrowF, hgF, hb2⟩
    rw [← HQ.out] at hrowF
    have HRF := hide hrowF
    have HB2 := hide hb2
    have d2 := (hb2.cell (p := ⟨bm, 2, none⟩) hbl).trans c2
    obtain ⟨t, ht⟩ : ∃ t : Nat, (t : Int) = x % 18446744073709551616 % (S : Int) := ⟨(x % 18446744073709551616 % (S : Int)).toNat, by have := Int.emod_nonneg (x % 18446744073709551616) (show (S : Int) ≠ 0 by omega); omega⟩
    have htS : t < S := by have := Int.emod_lt_of_pos (x % 18446744073709551616) (show (0 : Int) < (S : Int) by omega); omega
    have HPK := hide (pick_any x S w2 hS1 (by omega))
    rw [← ht] at HPK
    have HPT := hide (Path_any bm S I gN next uN t w2 (HNA.out.below hb2) hS1 (by omega) (by omega) HNL.out HNX.out htS)
    rw [← HQ.out] at HPT
    unfold slV
    clear ht hrowF hb2 HFA
    go_wp2_with fail
    refine HPK.out.mono ?_
    rintro e w2' ⟨rfl, hw2'⟩
    rw [hw2']
    clear HPK hw2'
    go_wp2_with fail
    refine HPT.out.mono ?_
    rintro e w3 ⟨hb3, hres⟩
    have HB3 := hide (HB2.out.trans (hb3.mono HB2.out.size))
    have HB23 := hide hb3
    have HRC := hide (reached_any w3 (HL.out.below (HB1.out.trans (HB3.out.mono HB1.out.size))))
    obtain ⟨l1, l2, l3⟩ := HF.out.low t htS
    have htl : t < q.steps.length := by rw [HF.out.len]; exact htS
    have HX : Hid (∀ W, Below w3.heap.size w3 W → NextAt W bm S I next gN uN ∧ (W.cell? ⟨bm, 2, none⟩ = some (.int .i64 (S : Int)) ∧ W.cell? ⟨bm, 3, none⟩ = some (.int .i64 (I : Int))) ∧ (∀ j, j < S → W.cell? ⟨gF, j, none⟩ = some (.int .i64 (q.at_ j).far)) ∧ Below w1.heap.size w1 W) := fun W hW => by
      have h1 : Below w1.heap.size w1 W := HB3.out.trans (hW.mono HB3.out.size)
      have h2 : Below w2.heap.size w2 W := HB23.out.trans (hW.mono HB23.out.size)
      refine ⟨HNA.out.below h1, ⟨(h1.cell (p := ⟨bm, 2, none⟩) hbl).trans c2, (h1.cell (p := ⟨bm, 3, none⟩) hbl).trans c3⟩, fun j hj => ?_, h1⟩
      have hjl : j < q.steps.length := by rw [HF.out.len]; exact hj
      exact (HRF.out.below h2).cell j _ (by rw [List.getElem?_map, List.getElem?_eq_getElem hjl]; simp [farV, Rc.Qu.at_, hjl])
    by_cases hneg : (q.at_ t).far < 0
    · rw [if_pos hneg] at hres
      obtain rfl := hres
      clear hb3 HPT
      go_wp2_with fail
      refine HRC.out.mono ?_
      rintro e w4 ⟨rfl, hb4⟩
      obtain ⟨_, ⟨k2, k3⟩, kF, hw4⟩ := HX.out w4 hb4
      have f0 := kF t htS
      have HB4 := hide (HB1.out.trans (hw4.mono HB1.out.size))
      have HTE := hide (ErAs.Tell_any (.iface 58 (.int .i64 8)) 8 w4 (HL.out.below HB4.out).door (.inl rfl))
      generalize (q.at_ t).far = fr at *
      have hsi : (t : Int) < (S : Int) := by omega
      clear hb4 kF hw4 HRC
      go_wp2_with fail
      refine HTE.out.mono ?_
      rintro e w5 ⟨rfl, hb5⟩
      have HB5 := hide (HB4.out.trans (hb5.mono HB4.out.size))
      clear hb5 HTE
      go_wp2_with fail
      go_ret
      exact ⟨rfl, HB5.out⟩
    · rw [if_neg hneg] at hres
      obtain ⟨gP, hres, hrowP, hgP⟩ := hres
      obtain ⟨n, hn⟩ : ∃ n : Nat, (q.at_ t).far = (n : Int) := ⟨(q.at_ t).far.toNat, by omega⟩
      rw [hn, show ((n : Int)).toNat = n by omega] at hrowP hres
      subst hres
      obtain ⟨g1, g2, g3⟩ := Rc.path_goes HF.out n t htS hn
      have hplen := Rc.pathOf_len q n t
      have HRP := hide hrowP
      have HG1 := hide g1
      have HG2 := hide g2
      have HG3 := hide g3
      have HPL := hide hplen
      have HTF := hide hn
      have hnS : n < S := by omega
      obtain ⟨pa, hpa⟩ : ∃ pa, pa = Rc.pathOf q n t := ⟨_, rfl⟩
      rw [← hpa] at HRP HG1 HG2 HG3 HPL
      unfold slV
      clear hb3 HPT hrowP g1 g2 g3 hplen hpa hneg l1 l2 l3
      go_wp2_with fail
      refine HRC.out.mono ?_
      rintro e w4 ⟨rfl, hb4⟩
      have HB4 := hide hb4
      obtain ⟨_, ⟨k2, k3⟩, kF, hw4⟩ := HX.out w4 hb4
      have f0 := kF t htS
      rw [hn] at f0
      have hsi : (t : Int) < (S : Int) := by omega
      have HX2 : Hid (∀ W, Below w4.heap.size w4 W → NextAt W bm S I next gN uN ∧ (W.cell? ⟨bm, 2, none⟩ = some (.int .i64 (S : Int)) ∧ W.cell? ⟨bm, 3, none⟩ = some (.int .i64 (I : Int))) ∧ (∀ j, j < S → W.cell? ⟨gF, j, none⟩ = some (.int .i64 (q.at_ j).far)) ∧ (∀ (j i : Nat), pa[j]? = some i → W.cell? ⟨gP, j, none⟩ = some (.int .i64 (i : Int))) ∧ Below w1.heap.size w1 W) := fun W hW => by
        have h3 : Below w3.heap.size w3 W := HB4.out.trans (hW.mono HB4.out.size)
        obtain ⟨e1, e2, e3, e4⟩ := HX.out W h3
        exact ⟨e1, e2, e3, fun j i hj => (HRP.out.below h3).cell j _ (by rw [List.getElem?_map, hj]; rfl), e4⟩
      have HGO0 : Hid (Rc.go next 0 (pa.take 0) = 0) := rfl
      clear hb4 kF hw4 HRC hn
      go_wp2_with fail
      go_loopw [11, 12] (fun sv i wr => ∃ j : Nat, j ≤ n ∧ i = .int .i64 (j : Int) ∧ sv = .int .i64 (Rc.go next 0 (pa.take j) : Int) ∧ Hid (Below w4.heap.size w4 wr)) (fun _ i _ => n - (intOf i).toNat)
      case atStart => exact ⟨0, Nat.zero_le _, rfl, rfl, Below.refl _ _⟩
      case round =>
        obtain ⟨j, hj, rfl, rfl, HB⟩ := hrel
        obtain ⟨hna, ⟨k2, k3⟩, kF, kP, hw1r⟩ := HX2.out wr HB.out
        by_cases hlt : j < n
        · have hjl : j < pa.length := by rw [HPL.out]; exact hlt
          have hje := List.getElem?_eq_getElem hjl
          have hii := HG3.out j _ hje
          obtain ⟨hgS, hgF2⟩ := HG2.out j hj
          obtain ⟨hgS2, hgF3⟩ := HG2.out (j + 1) (by omega)
          have hsu : Rc.go next 0 (pa.take (j + 1)) = (next (Rc.go next 0 (pa.take j))).getD pa[j] 0 := by rw [List.take_succ_eq_append_getElem hjl, Rc.go_snoc]
          have p0 := kP j _ hje
          rw [HNL.out] at hii
          obtain ⟨m, hm⟩ : ∃ m, m = Rc.go next 0 (pa.take j) := ⟨_, rfl⟩
          obtain ⟨m2, hm2⟩ : ∃ m2, m2 = Rc.go next 0 (pa.take (j + 1)) := ⟨_, rfl⟩
          rw [← hm] at hgS hsu
          rw [← hm2] at hgS2 hgF3 hsu
          have HM2 := hide hm2
          have hil : pa[j] < (next m).length := by rw [HNL.out]; exact hii
          have hx2 : (next m)[pa[j]]? = some m2 := by rw [hsu, List.getElem?_eq_getElem hil]; simp [hil]
          obtain ⟨bN, hbN⟩ : ∃ b, uN[m]? = some b := ⟨_, List.getElem?_eq_getElem (by rw [hna.2.1]; exact hgS)⟩
          have t0 := hna.1
          obtain ⟨t1, t2⟩ := hna.2.2 m bN hbN
          have t3 := t2 _ _ hx2
          have f2 := kF m2 hgS2
          rw [hgF3] at f2
          have hmi : (m : Int) < (S : Int) := by omega
          have hm2i : (m2 : Int) < (S : Int) := by omega
          have hji : (j : Int) < (n : Int) := by omega
          rw [← hm]
          clear hm hm2 hje hsu hil hx2 hbN t2 kF kP hna hgF2 hw1r
          generalize pa[j] = i at *
          have hiI : (i : Int) < (I : Int) := by omega
          have hiI2 : ¬ (I : Int) ≤ (i : Int) := by omega
          have hi0 : ¬ (i : Int) < 0 := by omega
          go_wp2_with fail
          go_quiet (fail)
          go_wp2_with fail
          go_quiet (fail)
          go_wp2_with fail
          go_roundw
          case rel => exact ⟨j + 1, by omega, by go_num, by rw [HM2.out], HB.out.trans ⟨rfl, rfl, rfl, Nat.le_refl _, fun _ _ => rfl⟩⟩
          case measure => simp [intOf]; omega
        · have hjn : j = n := by omega
          subst hjn
          have hend : Rc.go next 0 (pa.take j) = t := by rw [List.take_of_length_le (by rw [HPL.out]; exact Nat.le_refl _)]; exact HG1.out
          rw [hend]
          obtain ⟨wo, rfl⟩ : ∃ wo, wo = wr := ⟨_, rfl⟩
          clear hna k2 k3 kF kP hw1r hend
          go_wp2_with fail
          go_loopw [13] (fun i wr => ∃ a : Nat, a ≤ S ∧ i = .int .i64 (a : Int) ∧ Hid (Below w4.heap.size w4 wr)) (fun i _ => S - (intOf i).toNat)
          case atStart => exact ⟨0, Nat.zero_le _, rfl, HB.out⟩
          case round =>
            obtain ⟨a, ha, rfl, HB⟩ := hrel
            obtain ⟨hna, ⟨k2, k3⟩, kF, kP, hw1r⟩ := HX2.out wr HB.out
            by_cases hlt : a < S
            · clear hna k3 kF kP hw1r
              have hai : (a : Int) < (S : Int) := by omega
              go_wp2_with fail
              go_loopw [14] (fun i wr => ∃ b : Nat, b ≤ I ∧ i = .int .i64 (b : Int) ∧ Hid (Below w4.heap.size w4 wr)) (fun i _ => I - (intOf i).toNat)
              case atStart => exact ⟨0, Nat.zero_le _, rfl, HB.out⟩
              case round =>
                obtain ⟨b, hb, rfl, HB⟩ := hrel
                obtain ⟨hna, ⟨k2, k3⟩, kF, kP, hw1r⟩ := HX2.out wr HB.out
                by_cases hbI : b < I
                · have hbl : b < (next a).length := by rw [HNL.out]; exact hbI
                  have hx2 := List.getElem?_eq_getElem hbl
                  have hxS := HNX.out a _ hlt (List.getElem_mem hbl)
                  have hnear := fun h0 => HF.out.near a _ hlt h0 (List.getElem_mem hbl)
                  obtain ⟨bN, hbN⟩ : ∃ b, uN[a]? = some b := ⟨_, List.getElem?_eq_getElem (by rw [hna.2.1]; exact hlt)⟩
                  have t0 := hna.1
                  obtain ⟨t1, t2⟩ := hna.2.2 a bN hbN
                  have t3 := t2 _ _ hx2
                  have fa := kF a hlt
                  have fu := kF _ hxS
                  obtain ⟨la1, la2, la3⟩ := HF.out.low a hlt
                  obtain ⟨lu1, lu2, lu3⟩ := HF.out.low _ hxS
                  generalize (next a)[b] = u at *
                  generalize (q.at_ a).far = va at *
                  generalize (q.at_ u).far = vu at *
                  have hbi : (b : Int) < (I : Int) := by omega
                  have hui : (u : Int) < (S : Int) := by omega
                  clear hx2 hbN t2 kF kP hna hw1r
                  by_cases h0 : 0 ≤ va
                  · obtain ⟨n1, n2⟩ := hnear h0
                    have hv0 : Decidable.decide (0 ≤ va) = true := decide_eq_true h0
                    have hv1 : Decidable.decide (vu < 0) = false := decide_eq_false (by omega)
                    have hv2 : Decidable.decide (va + 1 < vu) = false := decide_eq_false (by omega)
                    clear hnear la3 lu3
                    go_wp2_with fail
                    go_quiet (fail)
                    go_wp2_with fail
                    exact ⟨⟨b + 1, by omega, by go_num, HB.out.trans ⟨rfl, rfl, rfl, Nat.le_refl _, fun _ _ => rfl⟩⟩, by simp [intOf]; omega⟩
                  · have hva := la3 (by omega)
                    subst hva
                    clear hnear la3 lu3
                    go_wp2_with fail
                    go_quiet (fail)
                    go_wp2_with fail
                    exact ⟨⟨b + 1, by omega, by go_num, HB.out.trans ⟨rfl, rfl, rfl, Nat.le_refl _, fun _ _ => rfl⟩⟩, by simp [intOf]; omega⟩
                · have hbI' : b = I := by omega
                  subst hbI'
                  clear hna kF kP hw1r
                  go_wp2_with fail
                  exact ⟨⟨a + 1, by omega, by go_num, HB.out⟩, by simp [intOf]; omega⟩
            · have haS : a = S := by omega
              subst haS
              have HFN := hide (HB1.out.trans (hw1r.mono HB1.out.size))
              clear hna kF kP hw1r
              go_wp2_with fail
              go_ret
              exact ⟨by simp, HFN.out⟩
end
end Go.Proofs.YtdmnikbhkpcdpaaGreatDoor
