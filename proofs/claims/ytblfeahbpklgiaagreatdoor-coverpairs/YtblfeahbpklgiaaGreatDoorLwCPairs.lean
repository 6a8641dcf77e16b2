/-
  The walk of the statement CoverPairs: the least pairs are the document's.
-/
import Derived.Test.YtblfeahbpklgiaaGreatDoorRpPairsW
import Derived.Test.YtblfeahbpklgiaaGreatDoorCvPairsE
import Derived.Test.YtblfeahbpklgiaaGreatDoorLwReadP
import Derived.Test.YtblfeahbpklgiaaGreatDoorErAsAll
import Derived.Test.YtblfeahbpklgiaaGreatDoorLwAtAll
import Derived.BigQuiet
namespace Go.Proofs.YtblfeahbpklgiaaGreatDoor
namespace Cv
open Go.RowKit ErAs
theorem Bare_any (e : Nat) (w : World) : Calls Tryz.prog 17 #[.int .i64 (e : Int)] w fun x w' => x = .returned (.agg #[.int .i64 (e : Int), .int .i64 (-1)]) ∧ Below w.heap.size w w' := by
  have HB : Hid (Below w.heap.size w (w.alloc (.cells #[.int .i64 (e : Int), .int .i64 (-1)] 44))) := (Below.refl _ _).alloc (Nat.le_refl _) _
  go_enter Tryz.func17, Tryz.ntmps17
  go_wp2_with fail
  refine bodyPost_ret_by (v := .agg #[.int .i64 (e : Int), .int .i64 (-1)]) ?_ rfl ⟨rfl, HB.out⟩
  simp [results, Tryz.results17, go_sem]
theorem bare_any (e : Nat) (w : World) (hg : Door w) : Calls Tryz.prog 6 #[.iface 33 (.int .i64 (e : Int)), .int .i64 (e : Int)] w fun x w' => x = .returned (.bool true) ∧ Below w.heap.size w w' := by
  have HG := hide hg
  clear hg
  go_enter Tryz.func6, Tryz.ntmps6
  go_wp2_with fail
  refine (Bare_any e w).mono ?_
  rintro x w1 ⟨rfl, hb1⟩
  have HB1 := hide hb1
  have HAT := hide (at_any (.iface 33 (.int .i64 (e : Int))) (e : Int) (-1) w1 ((hb1.cell (World.block_lt_of_cell? _ _ HG.out)).trans HG.out) (.inl ⟨rfl, rfl⟩))
  unfold faultV at HAT
  clear hb1
  go_wp2_with fail
  refine HAT.out.mono ?_
  rintro x w2 ⟨rfl, hb2⟩
  have HB2 := hide (HB1.out.trans (hb2.mono HB1.out.size))
  clear hb2
  go_wp2_with fail
  go_ret
  exact ⟨rfl, HB2.out⟩
theorem pairs_slice {w : World} {sv : Value} {l : List Pr} (h : PairsAt w sv l) : ∃ a c, sv = .slice a l.length c ∧ l.length ≤ c ∧ ∀ i p, l[i]? = some p → ∃ g, a = some ⟨g, 0, none⟩ ∧ w.cell? ⟨g, i * 3, none⟩ = some (.string ⟨p.name.toArray⟩) ∧ w.cell? ⟨g, i * 3 + 1, none⟩ = some (.int .u64 (p.off : Int)) ∧ w.cell? ⟨g, i * 3 + 2, none⟩ = some (.int .u64 ((p.off ||| 2 ^ p.k : Nat) : Int)) := by
  rcases h with ⟨h0, h⟩ | ⟨g, c, h, h1, h2⟩
  · subst h0
    exact ⟨none, 0, h, Nat.le_refl _, fun i p hp => by simp at hp⟩
  · exact ⟨_, _, h, h1, fun i p hp => ⟨g, rfl, h2 i p hp⟩⟩
set_option maxHeartbeats 8000000 in
set_option maxRecDepth 100000 in
theorem coverPairs_any (s : ByteArray) (m : Int) (w : World) (hs : s.size ≤ maxLen) (hf : Fine w) (hg : Door w) (hmp : 2 < w.heap.size) (hm : w.cell? ⟨2, 0, none⟩ = some (.int .i64 m)) :
    Calls Tryz.prog 3 #[.string s] w fun e w' => e = .returned (.bool true) ∧ Below w.heap.size w w' := by
  have HRD := hide (readP_any s w hs hf)
  have HG := hide hg
  have HM := hide hm
  have HMP := hide hmp
  clear hs hf hg hm hmp
  go_enter Tryz.func3, Tryz.ntmps3
  go_wp2_with fail
  refine HRD.out.mono ?_
  rintro e w1 ⟨hb1, hq⟩
  have HB1 := hide hb1
  clear hb1 HRD
  rcases hq with rfl | ⟨x, v, g, rfl, hx, hr, hsz, lt, hpr⟩
  · go_wp2_with fail
    go_ret
    exact ⟨rfl, HB1.out⟩
  have HX1 := hide hx
  have HR1 := hide hr
  have HSZ := hide hsz
  have HNE := hide (Ex.parse_names lt x hpr)
  have HPA := hide (PairsE_any _ x v w1 hx hsz)
  obtain ⟨tu, yu, hiu⟩ := IsEx.iface x v hx
  subst hiu
  have HDW : Hid (∀ W, Below w.heap.size w W → Door W ∧ 2 < W.heap.size ∧ W.cell? ⟨2, 0, none⟩ = some (.int .i64 m)) := fun W hW => ⟨(hW.cell (World.block_lt_of_cell? _ _ HG.out)).trans HG.out, Nat.lt_of_lt_of_le HMP.out hW.size, (hW.cell (World.block_lt_of_cell? _ _ HM.out)).trans HM.out⟩
  clear hx hr hsz hpr
  go_wp2_with fail
  refine HPA.out.mono ?_
  rintro e w2 ⟨ha, hb2⟩
  have HB12 := hide hb2
  have HB2 := hide (HB1.out.trans (hb2.mono HB1.out.size))
  have HR2 := hide (IsRx.later HR1.out hb2)
  have HED := hide (fun W (hW : Below w2.heap.size w2 W) => REdges_any _ x g m W (IsRx.later HR2.out hW) HSZ.out (HDW.out W (HB2.out.trans (hW.mono HB2.out.size))).2.1 (HDW.out W (HB2.out.trans (hW.mono HB2.out.size))).2.2)
  have HNM := hide (fun W (hW : Below w2.heap.size w2 W) => RNames_any _ x g m W (IsRx.later HR2.out hW) HSZ.out (HDW.out W (HB2.out.trans (hW.mono HB2.out.size))).2.1 (HDW.out W (HB2.out.trans (hW.mono HB2.out.size))).2.2)
  have HPW := hide (fun W (hW : Below w2.heap.size w2 W) h8 => RPairs_any x g m W (IsRx.later HR2.out hW) HSZ.out (HDW.out W (HB2.out.trans (hW.mono HB2.out.size))).2.1 (HDW.out W (HB2.out.trans (hW.mono HB2.out.size))).2.2 h8 HNE.out)
  have HDR : Hid (∀ W, Below w2.heap.size w2 W → Door W) := fun W hW => (HDW.out W (HB2.out.trans (hW.mono HB2.out.size))).1
  clear hb2 HPA HX1 HR1
  unfold AnswerE at ha
  unfold RPairs at HPW
  generalize ordered (x.named false) = E at *
  generalize hN : ordered (x.named true) = N at *
  clear hN
  rcases ha with ⟨hE, rfl⟩ | ⟨hE, hN8, rfl⟩ | ⟨sv, rfl, hE, hN8, hpa⟩
  · go_wp2_with fail
    refine (PairsNil_any w2).mono ?_
    rintro e w3 ⟨rfl, rfl⟩
    go_wp2_with fail
    refine (bare_any 7 w3 (HDR.out _ (Below.refl _ _))).mono ?_
    rintro e w4 ⟨rfl, hb4⟩
    have HB4 := hide hb4
    clear hb4
    go_wp2_with fail
    refine (HED.out w4 HB4.out).mono ?_
    rintro e w5 ⟨sE, rfl, hsE, hb5⟩
    obtain ⟨ae, ce, rfl, le1, le2⟩ := strs_slice hsE
    rw [List.length_map] at le1 le2 ⊢
    have hpos : 0 < E.length := by
      cases E with
      | nil => exact absurd rfl hE
      | cons a r => simp
    have HB5 := hide (HB4.out.trans (hb5.mono HB4.out.size))
    generalize E.length = ne at *
    clear hb5 hsE hE
    have hpi : (0 : Int) < (ne : Int) := by omega
    go_wp2_with fail
    refine (bare_any 1 w5 (HDR.out _ HB5.out)).mono ?_
    rintro e w6 ⟨rfl, hb6⟩
    have HB6 := hide (HB5.out.trans (hb6.mono HB5.out.size))
    have HBF := hide (HB2.out.trans (HB6.out.mono HB2.out.size))
    clear hb6
    go_wp2_with fail
    go_ret
    exact ⟨rfl, HBF.out⟩
  · go_wp2_with fail
    refine (PairsNil_any w2).mono ?_
    rintro e w3 ⟨rfl, rfl⟩
    go_wp2_with fail
    refine (bare_any 7 w3 (HDR.out _ (Below.refl _ _))).mono ?_
    rintro e w4 ⟨rfl, hb4⟩
    have HB4 := hide hb4
    clear hb4
    go_wp2_with fail
    refine (HED.out w4 HB4.out).mono ?_
    rintro e w5 ⟨sE, rfl, hsE, hb5⟩
    obtain ⟨ae, ce, rfl, le1, le2⟩ := strs_slice hsE
    rw [List.length_map] at le1 le2 ⊢
    have HB5 := hide (HB4.out.trans (hb5.mono HB4.out.size))
    subst hE
    simp only [List.length_nil] at le1 le2 ⊢
    clear hb5 hsE
    go_wp2_with fail
    refine (HNM.out w5 HB5.out).mono ?_
    rintro e w6 ⟨sN, rfl, hsN, hb6⟩
    obtain ⟨an, cn, rfl, ln1, ln2⟩ := strs_slice hsN
    rw [List.length_map] at ln1 ln2 ⊢
    have HB6 := hide (HB5.out.trans (hb6.mono HB5.out.size))
    generalize N.length = nn at *
    have hpi : (8 : Int) < (nn : Int) := by omega
    clear hb6 hsN
    go_wp2_with fail
    refine (bare_any 4 w6 (HDR.out _ HB6.out)).mono ?_
    rintro e w7 ⟨rfl, hb7⟩
    have HB7 := hide (HB6.out.trans (hb7.mono HB6.out.size))
    have HBF := hide (HB2.out.trans (HB7.out.mono HB2.out.size))
    clear hb7
    go_wp2_with fail
    go_ret
    exact ⟨rfl, HBF.out⟩
  · have HPR := hide hpa
    obtain ⟨pa, pc, rfl, hpc, _⟩ := pairs_slice hpa
    clear hpa
    go_wp2_with fail
    refine (PairsNil_any w2).mono ?_
    rintro e w3 ⟨rfl, rfl⟩
    go_wp2_with fail
    refine (bare_any 7 w3 (HDR.out _ (Below.refl _ _))).mono ?_
    rintro e w4 ⟨rfl, hb4⟩
    have HB4 := hide hb4
    clear hb4
    go_wp2_with fail
    refine (HED.out w4 HB4.out).mono ?_
    rintro e w5 ⟨sE, rfl, hsE, hb5⟩
    obtain ⟨ae, ce, rfl, le1, le2⟩ := strs_slice hsE
    rw [List.length_map] at le1 le2 ⊢
    have HB5 := hide (HB4.out.trans (hb5.mono HB4.out.size))
    subst hE
    simp only [List.length_nil] at le1 le2 ⊢
    clear hb5 hsE
    go_wp2_with fail
    refine (HNM.out w5 HB5.out).mono ?_
    rintro e w6 ⟨sN, rfl, hsN, hb6⟩
    obtain ⟨an, cn, rfl, ln1, ln2⟩ := strs_slice hsN
    rw [List.length_map] at ln1 ln2 ⊢
    have HB6 := hide (HB5.out.trans (hb6.mono HB5.out.size))
    have HPW6 := hide (HPW.out w6 HB6.out hN8)
    have HLE := hide (pairsTo_le (sayV x N) N N.length)
    generalize pairsTo (sayV x N) N N.length = P at *
    generalize N.length = nn at *
    have hpi : ¬ (8 : Int) < (nn : Int) := by omega
    clear hb6 hsN
    go_wp2_with fail
    refine HPW6.out.mono ?_
    rintro e w7 ⟨wv, rfl, hwv, hb7⟩
    have HB7 := hide (HB6.out.trans (hb7.mono HB6.out.size))
    have HPR7 := hide (HPR.out.below HB7.out)
    have HQR7 := hide hwv
    obtain ⟨qa, qc, rfl, hqc, _⟩ := pairs_slice hwv
    have hPl : P.length ≤ 8 := by have := HLE.out; omega
    obtain ⟨L, hL⟩ : ∃ L, L = P.length := ⟨_, rfl⟩
    have HL := hide hL
    rw [← hL] at hPl hpc hqc HPR7 HQR7 ⊢
    have hnn : ((L : Int) != (L : Int)) = false := by simp
    have HBF := hide (HB2.out.trans (HB7.out.mono HB2.out.size))
    clear hb7 hwv hL HPW6
    go_wp2_with fail
    go_loopw [11] (fun i wr => ∃ k : Nat, k ≤ L ∧ i = .int .i64 (k : Int) ∧ Hid (Below w7.heap.size w7 wr)) (fun i _ => L - (intOf i).toNat)
    case atStart => exact ⟨0, Nat.zero_le _, rfl, Below.refl _ _⟩
    case round =>
      obtain ⟨k, hk, rfl, HB⟩ := hrel
      by_cases hlt : k < L
      · have hkl : k < P.length := by rw [← HL.out]; exact hlt
        have hp := List.getElem?_eq_getElem hkl
        obtain ⟨a1, c1, e1, _, f1⟩ := pairs_slice (HPR7.out.below HB.out)
        obtain ⟨a2, c2, e2, _, f2⟩ := pairs_slice (HQR7.out.below HB.out)
        simp only [Value.slice.injEq] at e1 e2
        obtain ⟨g1, h1, x0, x1, x2⟩ := f1 k _ hp
        obtain ⟨g2, h2, y0, y1, y2⟩ := f2 k _ hp
        obtain rfl : pa = some ⟨g1, 0, none⟩ := e1.1.trans h1
        obtain rfl : qa = some ⟨g2, 0, none⟩ := e2.1.trans h2
        generalize (P[k].off ||| 2 ^ P[k].k) = on at *
        generalize P[k].off = off at *
        generalize P[k].name = nm at *
        clear f1 f2 e1 e2 h1 h2 hp hkl
        have t0 : (nm == nm) = true := by simp
        have t1 : (!(nm == nm)) = false := by simp
        have t2 : ((off : Int) != (off : Int)) = false := by simp
        have t3 : ((on : Int) != (on : Int)) = false := by simp
        go_upto_region 18 with fail
        go_quiet (fail)
        go_wp2_with fail
        go_roundw
        case rel => exact ⟨k + 1, by omega, by go_num, ⟨HB.out.os, HB.out.tape, HB.out.output, HB.out.size, HB.out.block⟩⟩
        case measure => simp [intOf]; omega
      · have HFIN := hide (HBF.out.trans (HB.out.mono HBF.out.size))
        go_wp2_with fail
        go_ret
        exact ⟨rfl, HFIN.out⟩
end Cv
end Go.Proofs.YtblfeahbpklgiaaGreatDoor
