/-
  The walk of package block's part.
-/
import Derived.Test.YtdeijfkahhgojaaDoorBkPartM
namespace Go.Proofs.YtdeijfkahhgojaaDoor
namespace Bk
open Go.RowKit
set_option maxHeartbeats 16000000 in
set_option maxRecDepth 100000 in
theorem part_any (N T : List (List Int)) (nv tv : Value) (a b : Nat) (w : World) (hG : Good N T) (hN : Rows w nv N) (hT : Rows w tv T) (ha : a < N.length) (hb : b < N.length) :
    Calls Tryd.prog 27 #[.agg #[nv, tv], .int .i64 (a : Int), .int .i64 (b : Int)] w (PartDone w (tab N T) a b) := by
  obtain ⟨i0, hi0, hz0, hz1, hz2⟩ := info_parts Tryd.infoPair
  obtain ⟨i1, hi1, hy0, hy1, hy2⟩ := info_parts Tryd.infoInt
  have HGD := hide hG
  have hn5 := hG.few
  have HN := hide hN
  have HT := hide hT
  obtain ⟨na, nc, rfl⟩ := hN.slice
  obtain ⟨ta, tc, rfl⟩ := hT.slice
  obtain ⟨wA, hwA⟩ : ∃ wA, wA = w.alloc (.cells #[.slice na N.length nc, .slice ta T.length tc] 24) := ⟨_, rfl⟩
  have HBA : Hid (Below w.heap.size w wA) := by rw [hwA]; exact (Below.refl _ _).alloc (Nat.le_refl _) _
  have HTA : Hid (Tab wA w.heap.size (.slice na N.length nc) (.slice ta T.length tc)) := by rw [hwA]; exact Tab.new _ _ _
  have hzA : wA.heap.size = w.heap.size + 1 := by rw [hwA]; simp
  have HNP := hide (newPairs_any N.length nc na (.slice ta T.length tc) wA ⟨_, _, _, rfl⟩ hn5)
  have HA := hide ha
  have HB0 := hide hb
  clear hG hN hT
  go_enter Tryd.func27, Tryd.ntmps27
  go_wp2_with fail
  rw [← hwA]
  clear hwA
  refine HNP.out.mono ?_
  rintro e w1 ⟨bS, bA, gA, rfl, ham, l1, l2, l3, n1, n2, hb1⟩
  have HAM := hide ham
  have HB1 := hide hb1
  have HIN := hide (isNew_any N.length a b bS bA gA _ w1 ham (by simp) hn5 ha hb)
  have hnot : (List.replicate (N.length * N.length) false).getD (code N.length a b) false = false := repl_false _ _
  clear ham hb1 HNP
  go_wp2_with fail
  refine HIN.out.mono ?_
  rintro e w2 ⟨rfl, _, hw2⟩
  have hw2 := hw2 hnot
  rw [hnot]
  have hzz := (RowIs.lt HAM.out.row)
  have hz2' : w2.heap.size = w1.heap.size := by rw [hw2]; simp [World.setCell]
  have HPC : Hid (PC w w2.heap.size bS bA gA) := ⟨by have := HB1.out.size; omega, by rw [hz2']; exact World.block_lt_of_cell? _ _ HAM.out.st, by rw [hz2']; exact World.block_lt_of_cell? _ _ HAM.out.sl, by omega, by omega, n1, n2⟩
  obtain ⟨w3, hw3⟩ : ∃ w3, w3 = w2.alloc (.cells #[.int .i64 (a : Int), .int .i64 (b : Int), .int .i64 (-1), .int .i64 0] 77) := ⟨_, rfl⟩
  have HPM : Hid (PM w w2.heap.size N.length bS bA gA (.slice na N.length nc) (.slice ta T.length tc) (.slice (some ⟨w2.heap.size, 0, none⟩) 1 1) ((List.replicate (N.length * N.length) false).set (code N.length a b) true) [⟨a, b, -1, 0⟩] w3) := by
    have hb3 : Below w2.heap.size w2 w3 := by rw [hw3]; exact (Below.refl _ _).alloc (Nat.le_refl _) _
    have hgW : w.heap.size ≠ gA := by omega
    have h2 : AMem w2 N.length bS bA gA ((List.replicate (N.length * N.length) false).set (code N.length a b) true) := by
      rw [hw2]
      refine ⟨cell_set_block _ _ _ _ _ _ _ n1 HAM.out.st, cell_set_block _ _ _ _ _ _ _ n2 HAM.out.sl, ?_⟩
      have h3 := HAM.out.row.set (code N.length a b) (.bool true)
      rw [List.map_set]
      exact h3
    have h4 : Tab w2 w.heap.size (.slice na N.length nc) (.slice ta T.length tc) := by
      rw [hw2]
      have h5 := HTA.out.below HB1.out
      exact ⟨cell_set_block _ _ _ _ _ _ _ hgW h5.1, cell_set_block _ _ _ _ _ _ _ hgW h5.2⟩
    have h6 : Below w.heap.size w w2 := by rw [hw2]; exact (then_ HBA.out HB1.out).setCell (by show w.heap.size ≤ gA; omega) _
    refine ⟨then_ h6 hb3, h4.below hb3, h2.below hb3, ?_⟩
    rw [hw3]
    exact own_pair w2 ⟨a, b, -1, 0⟩
  have HAI : Hid (AInv N.length [⟨a, b, -1, 0⟩] ((List.replicate (N.length * N.length) false).set (code N.length a b) true)) := (AInv.none N.length).push a b (-1) 0 ha hb hnot
  have HPI : Hid (PInv (tab N T) a b [⟨a, b, -1, 0⟩] 0 0) := PInv.start ha hb
  obtain ⟨q, hq⟩ : ∃ q, q = w2.heap.size := ⟨_, rfl⟩
  have HZ3 : Hid (q ≤ w3.heap.size) := by rw [hw3, hq]; show _ ≤ _; simp
  rw [← hq] at HPC HPM
  have hqw : w.heap.size < q := HPC.out.lw
  clear hw2 hnot HIN HAM HTA hzz hz2' HB1 HBA l1 l2 l3 n1 n2
  go_wp2_with fail
  rw [← hw3, ← hq]
  clear hw3 hq hzA
  have hnn : N.length * N.length ≤ 500 * 500 := Nat.mul_le_mul hn5 hn5
  obtain ⟨Q, hQ⟩ : ∃ Q, Q = N.length * N.length := ⟨_, rfl⟩
  have HQ := hide hQ
  rw [← hQ] at hnn
  clear hQ
  go_loopw [8, 9] (fun mv kv wr => ∃ (K : Nat) (M : List Pp) (asked : List Bool) (ma : Option Addr) (mc : Nat), K ≤ M.length ∧ kv = .int .i64 (K : Int) ∧ mv = .slice ma M.length mc ∧ Hid (PInv (tab N T) a b M K 0) ∧ Hid (AInv N.length M asked) ∧ Hid (PM w q N.length bS bA gA (.slice na N.length nc) (.slice ta T.length tc) (.slice ma M.length mc) asked M wr) ∧ Hid (q ≤ wr.heap.size)) (fun _ kv _ => Q - (intOf kv).toNat)
  case atStart => exact ⟨0, [⟨a, b, -1, 0⟩], _, _, _, by simp, rfl, rfl, HPI.out, HAI.out, HPM.out, HZ3.out⟩
  case round =>
    obtain ⟨K, M, asked, ma, mc, hK, rfl, rfl, HI, HAS, HP, HZ⟩ := hrel
    obtain ⟨wo, hwo⟩ : ∃ wo, wo = wr := ⟨_, rfl⟩
    subst hwo
    have hMQ : M.length ≤ Q := by have := HAS.out.few; rw [HQ.out]; omega
    obtain ⟨L, hL⟩ : ∃ L, L = M.length := ⟨_, rfl⟩
    have HL := hide hL
    by_cases hlt : K < M.length
    · obtain ⟨m, hm⟩ : ∃ m, M[K]? = some m := ⟨_, List.getElem?_eq_getElem hlt⟩
      obtain ⟨g, rfl, c0, c1, c2, c3⟩ := HP.out.met.cells K m hm
      obtain ⟨hxn, hyn⟩ := HI.out.low K m hm
      have hxn : m.a < N.length := hxn
      have hyn : m.b < N.length := hyn
      have hxT : m.a < T.length := by rw [HGD.out.tells]; exact hxn
      have hyT : m.b < T.length := by rw [HGD.out.tells]; exact hyn
      obtain ⟨t0, t1⟩ := HP.out.tab
      have HM := hide hm
      obtain ⟨wX, hwX⟩ : ∃ wX, wX = wo.alloc (.cells #[.int .i64 (m.a : Int), .int .i64 (m.b : Int), .int .i64 m.fr, .int .i64 (m.i : Int)] 77) := ⟨_, rfl⟩
      have HBX : Hid (Below wo.heap.size wo wX) := by rw [hwX]; exact (Below.refl _ _).alloc (Nat.le_refl _) _
      have HPX := hide (HP.out.below HBX.out)
      have x0 : wX.cell? ⟨wo.heap.size, 0, none⟩ = some (.int .i64 (m.a : Int)) := by rw [hwX, Lib.cell_of_heap (heap_alloc_new wo _)]; rfl
      have x1 : wX.cell? ⟨wo.heap.size, 1, none⟩ = some (.int .i64 (m.b : Int)) := by rw [hwX, Lib.cell_of_heap (heap_alloc_new wo _)]; rfl
      have hzX : wX.heap.size = wo.heap.size + 1 := by rw [hwX]; simp
      obtain ⟨gT, oT, eT, u1, d1, r1o, ii1o⟩ := (HT.out.below HP.out.bel).cell m.a _ (List.getElem?_eq_getElem hxT)
      subst eT
      have r1 := kept HBX.out r1o
      have ii1 := ii1o.below HBX.out
      have hgT := World.block_lt_of_cell? _ _ r1o
      have hwz : w.heap.size < wo.heap.size := by have := HZ.out; omega
      obtain ⟨gT', oT', eT', u2, d2, r2, ii2⟩ := (HT.out.below HPX.out.bel).cell m.b _ (List.getElem?_eq_getElem hyT)
      simp only [Option.some.injEq, Addr.mk.injEq, and_true] at eT'
      obtain ⟨rfl, rfl⟩ := eT'
      have eTa : T.getD m.a [] = T[m.a] := getD_in _ _ _ hxT
      have eTb : T.getD m.b [] = T[m.b] := getD_in _ _ _ hyT
      have lTa : T[m.a].length = (tab N T).k := by rw [← eTa]; exact (HGD.out.rows m.a hxn).2.1
      have lTb : T[m.b].length = (tab N T).k := by rw [← eTb]; exact (HGD.out.rows m.b hyn).2.1
      have HTL : Hid (∀ i, i < (tab N T).k → T[m.a][i]? = some ((tab N T).tl m.a i) ∧ T[m.b][i]? = some ((tab N T).tl m.b i)) := fun i hi => ⟨by rw [← eTa]; exact HGD.out.told m.a hxn i hi, by rw [← eTb]; exact HGD.out.told m.b hyn i hi⟩
      rw [lTa] at r1 ii1 r1o
      rw [lTb] at r2 ii2
      have HI1 := hide ii1
      have HI2 := hide ii2
      obtain ⟨tX0, tX1⟩ := HPX.out.tab
      have hk64 : (tab N T).k ≤ 64 := HGD.out.ins
      have hxi : (m.a : Int) < (T.length : Int) := by omega
      have hyi : (m.b : Int) < (T.length : Int) := by omega
      have hki : (K : Int) < (L : Int) := by omega
      rw [← hL] at HP HPX ⊢
      clear ii1 ii2 ii1o hL eTa eTb lTa lTb hm hK
      go_wp2_with fail
      rw [← hwX]
      clear hwX c0 c1 c2 c3 t0 t1 r1o
      generalize hkk : (tab N T).k = k at *
      have HKK := hide hkk
      clear hkk
      go_loopw [43] (fun iv wr => ∃ i : Nat, i ≤ k ∧ iv = .int .i64 (i : Int) ∧ Hid (∀ j, j < i → (tab N T).tl m.a j = (tab N T).tl m.b j) ∧ Hid (wr = wX)) (fun iv _ => k - (intOf iv).toNat)
      case atStart => exact ⟨0, Nat.zero_le _, rfl, fun j hj => by omega, rfl⟩
      case round =>
        obtain ⟨i, hi, rfl, HTO, HWR⟩ := hrel
        obtain rfl := HWR.out
        by_cases hik : i < k
        · obtain ⟨v1, v2⟩ := HTL.out i hik
          obtain ⟨ga, oa, rfl, y1, _⟩ := HI1.out.cell i _ v1
          obtain ⟨gb, ob, rfl, y2, _⟩ := HI2.out.cell i _ v2
          have HFD : Hid ((tab N T).tl m.a i ≠ (tab N T).tl m.b i → Found (tab N T) a b M K i m) := fun h => ⟨HI.out, HM.out, by rw [HKK.out]; exact hik, h, HTO.out, by omega⟩
          have HNX : Hid ((tab N T).tl m.a i = (tab N T).tl m.b i → ∀ j, j < i + 1 → (tab N T).tl m.a j = (tab N T).tl m.b j) := fun h j hj => by
            by_cases e : j = i
            · rw [e]; exact h
            · exact HTO.out j (by omega)
          have hii : (i : Int) < (k : Int) := by omega
          clear v1 v2
          generalize (tab N T).tl m.a i = z1 at *
          generalize (tab N T).tl m.b i = z2 at *
          by_cases hz : z1 = z2
          · have HN1 := hide (HNX.out hz)
            subst hz
            go_wp2_with fail
            go_roundw
            case rel => exact ⟨i + 1, by omega, by go_num, HN1.out, trivial⟩
            case measure => simp [intOf]; omega
          · have HF := hide (HFD.out hz)
            have HPT := hide (path_any (tab N T) a b K 0 K q M (.slice (some ⟨g, 0, none⟩) L mc) wr HI.out HPX.out.met hlt (by omega))
            have hpl : (pathTo M K).length ≤ 500000 := by have := path_len HI.out K m HM.out; omega
            have hzX0 := HPX.out.bel.size
            obtain ⟨pl, hpl2⟩ : ∃ pl, pl = (pathTo M K).length := ⟨_, rfl⟩
            have HPL := hide hpl2
            rw [← hpl2] at hpl
            clear hpl2 HFD HNX
            have HOWN : Hid (∀ (w4 : World) (pa : Option Addr) (pc : Nat) (o : Obj), Rw w4 wr.heap.size (.slice pa pl pc) (ints (pathTo M K)) → (w4.alloc o).ownsRow wr.heap.size 3 1 (.slice pa pl pc) pl ((ints (pathTo M K)).map intV)) := fun w4 pa pc o h => by
              unfold Rw at h
              rw [ints_len, ← HPL.out] at h
              exact h.alloc o
            have HONE : Hid (∀ u ∈ [Value.int .i64 (i : Int)], u.oneCell' = true) := by
              intro u hu
              simp only [List.mem_cons, List.not_mem_nil, or_false] at hu
              subst hu; rfl
            have HFIN : Hid (∀ (w4 : World) (pa : Option Addr) (pc : Nat) (o : Obj) (g5 cap5 : Nat) (wC : World), Rw w4 wr.heap.size (.slice pa pl pc) (ints (pathTo M K)) → Below wr.heap.size wr w4 → wC.ownsRow wr.heap.size 3 1 (.slice (some ⟨g5, 0, none⟩) (pl + 1) cap5) (pl + 1) ((ints (pathTo M K)).map intV ++ [.int .i64 (i : Int)]) → (w4.alloc o).grownBy wC (Value.slice pa pl pc).ownBlock →
                PartDone w (tab N T) a b (.returned (.slice (some ⟨g5, 0, none⟩) (pl + 1) cap5)) wC) := fun w4 pa pc o g5 cap5 wC h1 h2 h3 h4 => by
              refine ⟨?_, .inr ⟨M, K, i, m, g5, cap5, HF.out, by rw [HPL.out], ?_⟩⟩
              · have hb := then_ HPX.out.bel h2
                exact (hb.alloc hb.size o).grown h4 (by have := hb.size; simp; omega) (fun k e => by have := (own_lt h1 k e).1; omega)
              · unfold Rw
                rw [ints_snoc, List.map_append, List.length_append, ints_len, ← HPL.out]
                exact own_mono h3 (by omega)
            go_wp2_with (first
              | (at_builtin; refine wpList_append_lies _ rfl (.tmp 61) (.tmp 63) 31 rfl wr.heap.size 3 i1 _ 1 8 Tryd.underlying31 hi1 hy0 hy1 hy2 rfl (by decide) (.slice pa pl pc) pl ((ints (pathTo M K)).map intV) rfl (HOWN.out w4 pa pc _ HRW.out) ⟨w4.heap.size, 0, none⟩ 1 1 [.int .i64 (i : Int)] rfl rfl (World.news_of_block (heap_alloc_new w4 _)) (HONE.out) (by decide) (by unfold maxLen; omega) (by omega) (by have := HB4.out.size; simp; omega) (w4.heap.size + 1) (by simp) ?_; intro g5 cap5 wC hown hgrow hat hltg; have HE := hide (HFIN.out w4 pa pc _ g5 cap5 wC HRW.out HB4.out hown hgrow); clear hown hgrow hat)
              | (go_at_call 39; (with_reducible refine HPT.out.mono ?_); rintro e w4 ⟨pa, pc, rfl, hrw, hb4⟩; rw [← HPL.out] at hrw ⊢; have HRW := hide hrw; have HB4 := hide hb4; clear hrw hb4))
            go_ret
            exact HE.out
        · have hie : i = k := by omega
          have HTK : Hid (∀ j, j < (tab N T).k → (tab N T).tl m.a j = (tab N T).tl m.b j) := fun j hj => HTO.out j (by rw [HKK.out] at hj; omega)
          obtain ⟨wX, hwx⟩ : ∃ wX, wX = wr := ⟨_, rfl⟩
          subst hwx
          obtain ⟨gN, oN, eN, v1, e1, s1, jj1⟩ := HN.out.cell m.a _ (List.getElem?_eq_getElem hxn)
          subst eN
          obtain ⟨gN', oN', eN', v2, e2, s2, jj2⟩ := HN.out.cell m.b _ (List.getElem?_eq_getElem hyn)
          simp only [Option.some.injEq, Addr.mk.injEq, and_true] at eN'
          obtain ⟨rfl, rfl⟩ := eN'
          have eNa : N.getD m.a [] = N[m.a] := getD_in _ _ _ hxn
          have eNb : N.getD m.b [] = N[m.b] := getD_in _ _ _ hyn
          have lNa : N[m.a].length = k := by rw [← eNa, ← HKK.out]; exact (HGD.out.rows m.a hxn).1
          have lNb : N[m.b].length = k := by rw [← eNb, ← HKK.out]; exact (HGD.out.rows m.b hyn).1
          have HNL : Hid (∀ i, i < k → N[m.a][i]? = some (((tab N T).nx m.a i : Nat) : Int) ∧ N[m.b][i]? = some (((tab N T).nx m.b i : Nat) : Int) ∧ (tab N T).nx m.a i < N.length ∧ (tab N T).nx m.b i < N.length) := fun i hi => by
            rw [← HKK.out] at hi
            exact ⟨by rw [← eNa]; exact HGD.out.next m.a hxn i hi, by rw [← eNb]; exact HGD.out.next m.b hyn i hi, HGD.out.ok m.a hxn i hi, HGD.out.ok m.b hyn i hi⟩
          rw [lNa] at s1 jj1
          rw [lNb] at s2 jj2
          have HS1 := hide s1
          have HS2 := hide s2
          have HJ1 := hide jj1
          have HJ2 := hide jj2
          have s1X := kept HPX.out.bel s1
          have hxni : (m.a : Int) < (N.length : Int) := by omega
          have hyni : (m.b : Int) < (N.length : Int) := by omega
          have HOB : Hid ((Value.slice (some ⟨g, 0, none⟩) L mc).ownBlock ≠ some wo.heap.size) := fun e => by
            have := (own_lt HP.out.met _ e).2
            omega
          clear s1 s2 jj1 jj2 eNa eNb lNa lNb hie
          go_wp2_with fail
          go_loopw [8, 73] (fun mv jv wr => ∃ (J : Nat) (M' : List Pp) (asked' : List Bool) (ma' : Option Addr) (mc' : Nat), J ≤ k ∧ jv = .int .i64 (J : Int) ∧ mv = .slice ma' M'.length mc' ∧ Hid (PInv (tab N T) a b M' K J) ∧ Hid (AInv N.length M' asked') ∧ Hid (PM w q N.length bS bA gA (.slice (some ⟨gN, oN, none⟩) N.length nc) (.slice (some ⟨gT, oT, none⟩) T.length tc) (.slice ma' M'.length mc') asked' M' wr) ∧ Hid (M'[K]? = some m) ∧ Hid (wr.cell? ⟨wo.heap.size, 0, none⟩ = some (.int .i64 (m.a : Int)) ∧ wr.cell? ⟨wo.heap.size, 1, none⟩ = some (.int .i64 (m.b : Int))) ∧ Hid ((Value.slice ma' M'.length mc').ownBlock ≠ some wo.heap.size) ∧ Hid (wX.heap.size ≤ wr.heap.size)) (fun _ jv _ => k - (intOf jv).toNat)
          case atStart => exact ⟨0, M, asked, _, _, Nat.zero_le _, rfl, by rw [HL.out], HI.out, HAS.out, by rw [HL.out] at HPX; exact HPX.out, HM.out, ⟨x0, x1⟩, by rw [HL.out] at HOB; exact HOB.out, Nat.le_refl _⟩
          case round =>
            obtain ⟨J, M', asked', ma', mc', hJ, rfl, rfl, HI', HAS', HP', HM', HX', HOB', HZ'⟩ := hrel
            obtain ⟨L', hL'⟩ : ∃ L', L' = M'.length := ⟨_, rfl⟩
            have HL' := hide hL'
            have hMQ' : L' ≤ Q := by have := HAS'.out.few; rw [HQ.out, hL']; omega
            have hKL' : K < M'.length := (List.getElem?_eq_some_iff.1 HM'.out).1
            by_cases hJk : J < k
            · obtain ⟨v3, v4, hto, hot⟩ := HNL.out J hJk
              obtain ⟨ga, oa, rfl, y1, _⟩ := (HJ1.out.below HP'.out.bel).cell J _ v3
              obtain ⟨gb, ob, rfl, y2, _⟩ := (HJ2.out.below HP'.out.bel).cell J _ v4
              have r3 := kept HP'.out.bel HS1.out
              have r4 := kept HP'.out.bel HS2.out
              obtain ⟨tt0, tt1⟩ := HP'.out.tab
              obtain ⟨xx0, xx1⟩ := HX'.out
              have hJt : J < (tab N T).k := by rw [HKK.out]; exact hJk
              have HPASS : Hid ((tab N T).nx m.a J = (tab N T).nx m.b J ∨ Seen M' ((tab N T).nx m.a J) ((tab N T).nx m.b J) → PInv (tab N T) a b M' K (J + 1)) := fun h => HI'.out.pass (fun m' hm' => by rw [HM'.out] at hm'; cases hm'; exact h)
              have HPUSH := hide (HI'.out.push HGD.out.ok m HM'.out hJt)
              have HIFF := hide (HAS'.out.iff _ _ hto hot)
              have HAPU := hide (fun h => HAS'.out.push ((tab N T).nx m.a J) ((tab N T).nx m.b J) (K : Int) J hto hot h)
              have HIN := hide (isNew_any N.length ((tab N T).nx m.a J) ((tab N T).nx m.b J) bS bA gA asked' wr HP'.out.am HAS'.out.len hn5 hto hot)
              have hJi : (J : Int) < (k : Int) := by omega
              clear v3 v4 hJt
              generalize (tab N T).nx m.a J = to at *
              generalize (tab N T).nx m.b J = ot at *
              rw [← hL']
              by_cases hto2 : to = ot
              · have HP1 := hide (HPASS.out (.inl hto2))
                subst hto2
                rw [hL']
                clear hL'
                go_wp2_with fail
                go_roundw
                case rel => exact ⟨J + 1, M', asked', ma', mc', by omega, by go_num, rfl, HP1.out, HAS'.out, HP'.out, HM'.out, ⟨xx0, xx1⟩, HOB'.out, HZ'.out⟩
                case measure => simp [intOf]; omega
              · have hti : ¬ (to : Int) = (ot : Int) := by omega
                cases has : asked'.getD (code N.length to ot) false with
                | true =>
                  have HP1 := hide (HPASS.out (.inr (HIFF.out.1 has)))
                  have HIN2 : Hid (Calls Tryd.prog 45 #[.int .i64 (to : Int), .int .i64 (ot : Int), .pointer (some ⟨bS, 0, none⟩), .pointer (some ⟨bA, 0, none⟩)] wr fun e w' => e = .returned (.bool false) ∧ w' = wr) := by
                    refine HIN.out.mono ?_
                    rintro e w' ⟨h1, h2, _⟩
                    rw [has] at h1
                    exact ⟨h1, h2 has⟩
                  clear has HIN HAPU HIFF
                  rw [hL']
                  clear hL'
                  go_wp2_with (go_at_call 45; (with_reducible refine HIN2.out.mono ?_); rintro e w5 ⟨rfl, rfl⟩)
                  go_roundw
                  case rel => exact ⟨J + 1, M', asked', ma', mc', by omega, by go_num, rfl, HP1.out, HAS'.out, HP'.out, HM'.out, ⟨xx0, xx1⟩, HOB'.out, HZ'.out⟩
                  case measure => simp [intOf]; omega
                | false =>
                  have HAP := hide (HAPU.out has)
                  have HIN2 : Hid (Calls Tryd.prog 45 #[.int .i64 (to : Int), .int .i64 (ot : Int), .pointer (some ⟨bS, 0, none⟩), .pointer (some ⟨bA, 0, none⟩)] wr fun e w' => e = .returned (.bool true) ∧ wr.setCell ⟨gA, code N.length to ot, none⟩ (.bool true) = w') := by
                    refine HIN.out.mono ?_
                    rintro e w' ⟨h1, _, h2⟩
                    rw [has] at h1
                    exact ⟨h1, (h2 has).symm⟩
                  obtain ⟨wM, hwM⟩ : ∃ wM, wM = wr.setCell ⟨gA, code N.length to ot, none⟩ (.bool true) := ⟨_, rfl⟩
                  have HPMM := hide (HP'.out.mark HPC.out (code N.length to ot))
                  have hgo : wo.heap.size ≠ gA := by have := HPC.out.lG; have := HZ.out; omega
                  have HXM : Hid (wM.cell? ⟨wo.heap.size, 0, none⟩ = some (.int .i64 (m.a : Int)) ∧ wM.cell? ⟨wo.heap.size, 1, none⟩ = some (.int .i64 (m.b : Int))) := by
                    rw [hwM]
                    exact ⟨cell_set_block _ _ _ _ _ _ _ hgo xx0, cell_set_block _ _ _ _ _ _ _ hgo xx1⟩
                  have HZM : Hid (wM.heap.size = wr.heap.size) := by rw [hwM]; show _ = _; simp [World.setCell]
                  rw [← hwM] at HPMM HIN2
                  clear hwM has HIN HAPU HIFF
                  have HOWN : Hid (∀ o, (wM.alloc o).ownsRow q 77 4 (.slice ma' L' mc') L' (M'.flatMap ppCells)) := fun o => by have h := HPMM.out.met; unfold MetAt at h; rw [← hL'] at h; exact h.alloc o
                  have HONE : Hid (∀ u ∈ ppCells ⟨to, ot, (K : Int), J⟩, u.oneCell' = true) := by
                    intro u hu
                    simp only [ppCells, List.mem_cons, List.not_mem_nil, or_false] at hu
                    rcases hu with rfl | rfl | rfl | rfl <;> rfl
                  have HFIN : Hid (∀ (o : Obj) (g5 cap5 : Nat) (wC : World), wC.ownsRow q 77 4 (.slice (some ⟨g5, 0, none⟩) (L' + 1) cap5) (L' + 1) (M'.flatMap ppCells ++ ppCells ⟨to, ot, (K : Int), J⟩) → (wM.alloc o).grownBy wC (Value.slice ma' L' mc').ownBlock → ((Value.slice ma' L' mc').ownBlock = some g5 ∨ g5 = wM.heap.size + 1) →
                      PM w q N.length bS bA gA (.slice (some ⟨gN, oN, none⟩) N.length nc) (.slice (some ⟨gT, oT, none⟩) T.length tc) (.slice (some ⟨g5, 0, none⟩) (L' + 1) cap5) (asked'.set (code N.length to ot) true) (M' ++ [⟨to, ot, (K : Int), J⟩]) wC ∧ (wC.cell? ⟨wo.heap.size, 0, none⟩ = some (.int .i64 (m.a : Int)) ∧ wC.cell? ⟨wo.heap.size, 1, none⟩ = some (.int .i64 (m.b : Int))) ∧ (Value.slice (some ⟨g5, 0, none⟩) (L' + 1) cap5).ownBlock ≠ some wo.heap.size ∧ wX.heap.size ≤ wC.heap.size) := fun o g5 cap5 wC h1 h2 h3 => by
                    have hzC := h2.size
                    rw [World.size_alloc] at hzC
                    have hz8 := HZ'.out
                    have hzM := HZM.out
                    have hob := HOB'.out
                    rw [← hL'] at hob
                    have hblk : wC.heap[wo.heap.size]? = wM.heap[wo.heap.size]? := (h2.block _ (by simp; omega) (fun e => hob e.symm)).trans (Below.heap_alloc _ _ _ (by omega))
                    refine ⟨?_, ⟨(heap_cell 0 hblk).trans HXM.out.1, (heap_cell 1 hblk).trans HXM.out.2⟩, ?_, by omega⟩
                    · have h := HPMM.out.push HPC.out ⟨to, ot, (K : Int), J⟩ o g5 cap5 wC (by rw [← hL']; exact h1) (by rw [← hL']; exact h2)
                      rw [← hL'] at h
                      exact h
                    · intro e
                      simp only [Value.ownBlock, Option.some.injEq] at e
                      rcases h3 with h3 | h3
                      · exact hob (by rw [h3, e])
                      · omega
                  have HMN : Hid ((M' ++ [⟨to, ot, (K : Int), J⟩])[K]? = some m) := (getElem?_snoc _ _ _ _).2 (.inl HM'.out)
                  have hzq : q ≤ wM.heap.size := by have := HZ.out; have := HZ'.out; have := HZM.out; omega
                  clear hL'
                  go_wp2_with (first
                    | (at_builtin; refine wpList_append_lies _ rfl (.tmp 96) (.tmp 102) 78 rfl q 77 i0 _ 4 32 Tryd.underlying78 hi0 hz0 hz1 hz2 rfl (by decide) (.slice ma' L' mc') L' (M'.flatMap ppCells) rfl (HOWN.out _) ⟨wM.heap.size, 0, none⟩ 1 1 (ppCells ⟨to, ot, (K : Int), J⟩) rfl rfl (World.news_of_block (heap_alloc_new wM _)) (HONE.out) (by decide) (by unfold maxLen; omega) (by omega) (by simp; omega) (wM.heap.size + 1) (by simp) ?_; intro g5 cap5 wC hown hgrow hat hltg; have HF5 := hide (HFIN.out _ g5 cap5 wC hown hgrow hat); clear hown hgrow hat)
                    | (go_at_call 45; (with_reducible refine HIN2.out.mono ?_); rintro e w5 ⟨rfl, rfl⟩))
                  go_roundw
                  case rel => exact ⟨J + 1, M' ++ [(⟨to, ot, (K : Int), J⟩ : Pp)], asked'.set (code N.length to ot) true, _, _, by omega, by go_num, by rw [List.length_append, ← HL'.out]; rfl, HPUSH.out, HAP.out, by rw [List.length_append, ← HL'.out]; exact HF5.out.1, HMN.out, HF5.out.2.1, by rw [List.length_append, ← HL'.out]; exact HF5.out.2.2.1, HF5.out.2.2.2⟩
                  case measure => simp [intOf]; omega
            · have HREL : Hid (PInv (tab N T) a b M' (K + 1) 0) := by
                have h := HI'.out
                have e : J = (tab N T).k := by rw [HKK.out]; omega
                rw [e] at h
                exact h.turn (fun m' hm' => by rw [HM'.out] at hm'; cases hm'; exact HTK.out)
              have hJi : ¬ (J : Int) < (k : Int) := by omega
              have hKQ : K < Q := by omega
              rw [← hL']
              clear hL'
              go_wp2_with fail
              go_roundw
              case rel => exact ⟨K + 1, M', asked', ma', mc', by omega, by go_num, by rw [HL'.out], HREL.out, HAS'.out, HP'.out, Nat.le_trans HZ.out (Nat.le_trans (by omega) HZ'.out)⟩
              case measure => simp [intOf]; omega
    · have HAL : Hid (PartDone w (tab N T) a b (.returned (.slice none 0 0)) wo) := ⟨HP.out.bel, .inl ⟨rfl, HI.out.done (by omega)⟩⟩
      rw [← hL] at hlt hK ⊢
      have hki : ¬ (K : Int) < (L : Int) := by omega
      clear hL
      go_wp2_with fail
      go_ret
      exact HAL.out
end Bk
end Go.Proofs.YtdeijfkahhgojaaDoor
