/-
  The walk of package block's Least.
-/
import Derived.Test.YtdeijfkahhgojaaDoorBkLst
namespace Go.Proofs.YtdeijfkahhgojaaDoor
namespace Bk
open Go.RowKit
/-- a block's number, of a state -/
def ofI (of : List Nat) (x : Int) : Int := ((of.getD x.toNat 0 : Nat) : Int)
/-- the table of blocks -/
def leastN (N T : List (List Int)) (d : Nat) : List (List Int) := (gd N T d).2.map fun f => (N.getD f []).map (ofI (gd N T d).1)
def leastT (N T : List (List Int)) (d : Nat) : List (List Int) := (gd N T d).2.map fun f => T.getD f []
/-- what Least comes to: what is wrong; else the table of blocks -/
def LeastDone (w : World) (N T : List (List Int)) (e : Ending) (w' : World) : Prop := Below w.heap.size w w' ∧
  ((check N T ≠ none ∧ ∃ v, e = .returned (.tuple #[.agg #[.slice none 0 0, .slice none 0 0], v]) ∧ ErrIs w' v (check N T)) ∨
   (check N T = none ∧ ∃ d nv tv, 1 ≤ d ∧ Stable (tab N T) d ∧ e = .returned (.tuple #[.agg #[nv, tv], .nilIface]) ∧ Rows w' nv (leastN N T d) ∧ Rows w' tv (leastT N T d)))
theorem of_small {al : Nat → Nat → Bool} {n : Nat} {of firsts : List Nat} (h : GInv al n of firsts) (hn : n ≤ 500) (i : Nat) : of.getD i 0 ≤ 500 := by
  by_cases hi : i < n
  · obtain ⟨j, f, e1, e2, e3, _⟩ := h.has i hi
    have hj : j ≤ f := by
      have key : ∀ j f : Nat, firsts[j]? = some f → j ≤ f := by
        intro j
        induction j with
        | zero => exact fun f _ => Nat.zero_le _
        | succ j ih =>
          intro f hf
          have hl := (List.getElem?_eq_some_iff.1 hf).1
          have h1 := List.getElem?_eq_getElem (show j < firsts.length by omega)
          have h2 := ih _ h1
          have h3 := (h.apart j (j + 1) _ f (by omega) h1 hf).1
          omega
      exact key j f e2
    rw [List.getD_eq_getElem?_getD, e1]
    show j ≤ 500
    omega
  · rw [List.getD_eq_getElem?_getD, List.getElem?_eq_none (by rw [h.len]; omega)]
    show 0 ≤ 500
    omega
theorem Rows.small {w : World} {sv : Value} {L : List (List Int)} (h : Rows w sv L) (s : Nat) (hs : s < L.length) (x : Int) (hx : x ∈ L[s]) : I64 x := by
  obtain ⟨a, c, _, _, h3⟩ := h
  obtain ⟨g, o, v, _, _, _, h4⟩ := h3 s _ (List.getElem?_eq_getElem hs)
  obtain ⟨k, hk⟩ := List.getElem?_of_mem hx
  obtain ⟨_, _, _, _, h5⟩ := h4
  obtain ⟨_, _, _, _, _, h6⟩ := h5 k x hk
  exact h6
theorem kept_low {n : Nat} {W W' : World} (hb : Below n W W') {b i : Nat} {v : Value} (h : W.cell? ⟨b, i, none⟩ = some v) (hn : b < n) : W'.cell? ⟨b, i, none⟩ = some v := (hb.cell (p := ⟨b, i, none⟩) hn).trans h
set_option maxHeartbeats 8000000 in
set_option maxRecDepth 100000 in
theorem Least_any (N T : List (List Int)) (nv tv : Value) (w : World) (hN : Rows w nv N) (hT : Rows w tv T) :
    Calls Tryd.prog 7 #[.agg #[nv, tv]] w (LeastDone w N T) := by
  obtain ⟨wA, hwA⟩ : ∃ wA, wA = w.alloc (.cells #[nv, tv] 24) := ⟨_, rfl⟩
  obtain ⟨wB, hwB⟩ : ∃ wB, wB = wA.alloc (.cells #[.slice none 0 0, .slice none 0 0] 24) := ⟨_, rfl⟩
  have hzA : wA.heap.size = w.heap.size + 1 := by rw [hwA]; simp
  have hzB : wB.heap.size = w.heap.size + 2 := by rw [hwB]; simp [hzA]
  have hBA : Below w.heap.size w wA := by rw [hwA]; exact (Below.refl _ _).alloc (Nat.le_refl _) _
  have hBB : Below wA.heap.size wA wB := by rw [hwB]; exact (Below.refl _ _).alloc (Nat.le_refl _) _
  have hWB := then_ hBA hBB
  have hTA : Tab wB w.heap.size nv tv := by refine Tab.below ?_ hBB; rw [hwA]; exact Tab.new _ _ _
  have HRS : Hid (wB.heap[w.heap.size + 1]? = some (.cells #[.slice none 0 0, .slice none 0 0] 24 (0, 0))) := by
    rw [hwB, ← hzA]; exact heap_alloc_new _ _
  have HC := hide (Check_any N T nv tv wB (hN.below hWB) (hT.below hWB))
  have HBL := hide (fun W (hG : Good N T) (hW : Below wB.heap.size wB W) => blocks_any N T nv tv W hG (hN.below (then_ hWB hW)) (hT.below (then_ hWB hW)))
  obtain ⟨na, nc, rfl⟩ := hN.slice
  obtain ⟨ta, tc, rfl⟩ := hT.slice
  have HN := hide hN
  have HT := hide hT
  have HBA := hide hWB
  have HTA := hide hTA
  obtain ⟨t0, t1⟩ := hTA
  have nq := neqNil
  have nn := neqNilN
  clear hN hT hBA hBB hWB
  go_enter Tryd.func7, Tryd.ntmps7
  go_wp2_with fail
  rw [← hwA, ← hwB]
  clear hwA hwB
  refine HC.out.mono ?_
  rintro e w1 ⟨v, rfl, he, hb1⟩
  have HB1 := hide hb1
  obtain ⟨s0, s1⟩ := HTA.out.below hb1
  have HRS1 : Hid (w1.heap[w.heap.size + 1]? = some (.cells #[.slice none 0 0, .slice none 0 0] 24 (0, 0))) := (hb1.block _ (by omega)).trans HRS.out
  cases hck : check N T with
  | none =>
    rw [hck] at he
    obtain rfl : v = .nilIface := he
    have HB2 := hide (HBL.out w1 (good_of hck) hb1)
    have HGD := hide (good_of hck)
    have HCK := hide hck
    clear hb1 hck HC HBL
    go_wp2_with fail
    refine HB2.out.mono ?_
    rintro e w2 ⟨d, hd, hs, g2, f2, rfl, hr2, ho2, hg2, hb2⟩
    have HSTB := hide hs
    have HR2 := hide hr2
    have hgl2 := RowIs.lt hr2
    have hz2 : w.heap.size + 2 ≤ w2.heap.size := by have := HB1.out.size; have := hb2.size; omega
    have HBW := hide (then_ HBA.out (then_ HB1.out hb2))
    have hn5 := HGD.out.few
    have hk64 := HGD.out.ins
    have hml : (gd N T d).2.length ≤ 500 := Nat.le_trans (firsts_le _) hn5
    have HGI : Hid (GInv (eqB (tab N T) d) N.length (gd N T d).1 (gd N T d).2) := inv_grp (eqv_eqB (tab N T) d) N.length (Nat.le_refl _)
    have HFI : Hid (Ints w2 f2 (ints (gd N T d).2)) := ints_own (by rw [ints_len]; exact ho2) (by rw [ints_len]; unfold maxLen; omega) (fun x hx => by have := ints_mem _ N.length HGI.out.mem_lt x hx; unfold I64; omega)
    obtain ⟨fa, fc, rfl⟩ := own_slice ho2
    have HTB2 : Hid (Tab w2 w.heap.size (.slice na N.length nc) (.slice ta T.length tc)) := Tab.below ⟨s0, s1⟩ hb2
    have HRS2 : Hid (w2.heap[w.heap.size + 1]? = some (.cells #[.slice none 0 0, .slice none 0 0] 24 (0, 0))) := (hb2.block _ (Array.getElem?_eq_some_iff.1 HRS1.out).1).trans HRS1.out
    obtain ⟨wL, hwL⟩ : ∃ wL, wL = w2.alloc (.cells #[.slice none 0 0, .slice none 0 0] 24) := ⟨_, rfl⟩
    have HBL : Hid (Below w2.heap.size w2 wL) := by rw [hwL]; exact (Below.refl _ _).alloc (Nat.le_refl _) _
    have HL0 : Hid (Lst (w2.heap.size + 1) w2.heap.size wL [] [] (.slice none 0 0) (.slice none 0 0) [] []) :=
      ⟨by omega, by rw [hwL]; exact heap_alloc_new _ _, World.ownsRow_nil _ _ _ _, World.ownsRow_nil _ _ _ _, fun i r hr => by simp at hr, fun i r hr => by simp at hr, .inl rfl⟩
    have hzL : wL.heap.size = w2.heap.size + 1 := by rw [hwL]; simp
    clear hs hr2 ho2 hg2 hb2 HB2 s0 s1 t0 t1
    obtain ⟨m, hm⟩ : ∃ m, m = (gd N T d).2.length := ⟨_, rfl⟩
    have HM := hide hm
    rw [← hm] at HFI hml ⊢
    clear hm
    go_wp2_with fail
    rw [← hwL]
    clear hwL
    go_loopw [26] (fun i wr => ∃ j : Nat, j ≤ m ∧ i = .int .i64 (j : Int) ∧ ∃ nv tv vs us, Hid (Lst (w2.heap.size + 1) w2.heap.size wr ((leastN N T d).take j) ((leastT N T d).take j) nv tv vs us) ∧ Hid (Below w2.heap.size w2 wr)) (fun i _ => m - (intOf i).toNat)
    case atStart => exact ⟨0, Nat.zero_le _, rfl, _, _, _, _, by rw [List.take_zero, List.take_zero]; exact HL0.out, HBL.out⟩
    case round =>
      obtain ⟨j, hj, rfl, nv, tv, vs, us, HL, HB⟩ := hrel
      obtain ⟨wo, hwo⟩ : ∃ wo, wo = wr := ⟨_, rfl⟩
      subst hwo
      have HLN : Hid (((leastN N T d).take j).length = j ∧ ((leastT N T d).take j).length = j) := by
        have h1 : (leastN N T d).length = m := by rw [leastN, List.length_map, HM.out]
        have h2 : (leastT N T d).length = m := by rw [leastT, List.length_map, HM.out]
        exact ⟨by rw [List.length_take]; omega, by rw [List.length_take]; omega⟩
      obtain ⟨nva, nvc, hnv⟩ := own_slice HL.out.on
      obtain ⟨tva, tvc, htv⟩ := own_slice HL.out.ot
      rw [HLN.out.1] at hnv
      rw [HLN.out.2] at htv
      subst hnv
      subst htv
      by_cases hlt : j < m
      · have hjf : j < (gd N T d).2.length := by rw [← HM.out]; exact hlt
        obtain ⟨f, hf⟩ : ∃ f, (gd N T d).2[j]? = some f := ⟨_, List.getElem?_eq_getElem hjf⟩
        have hfN : f < N.length := HGI.out.mem_lt f (List.mem_of_getElem? hf)
        have hfT : f < T.length := by rw [HGD.out.tells]; exact hfN
        have HSN : Hid ((leastN N T d).take (j + 1) = (leastN N T d).take j ++ [(N.getD f []).map (ofI (gd N T d).1)]) := by
          have h : (leastN N T d)[j]? = some ((N.getD f []).map (ofI (gd N T d).1)) := by rw [leastN, List.getElem?_map, hf]; rfl
          obtain ⟨h1, h2⟩ := List.getElem?_eq_some_iff.1 h
          show _ = _
          rw [List.take_succ_eq_append_getElem h1, h2]
        have HST1 : Hid ((leastT N T d).take (j + 1) = (leastT N T d).take j ++ [T.getD f []]) := by
          have h : (leastT N T d)[j]? = some (T.getD f []) := by rw [leastT, List.getElem?_map, hf]; rfl
          obtain ⟨h1, h2⟩ := List.getElem?_eq_some_iff.1 h
          show _ = _
          rw [List.take_succ_eq_append_getElem h1, h2]
        obtain ⟨gf, og, rfl, cf, _⟩ := (HFI.out.below HB.out).cell j _ (ints_get _ j f hf)
        obtain ⟨tb0, tb1⟩ := Tab.below HTB2.out HB.out
        have HBr := hide (HBW.out.trans (HB.out.mono HBW.out.size))
        obtain ⟨gN, oN, rfl, u1, d1, c1, i1⟩ := (HN.out.below HBr.out).cell f _ (List.getElem?_eq_getElem hfN)
        obtain ⟨gT, oT, rfl, u2, d2, c2, i2⟩ := HT.out.cell f _ (List.getElem?_eq_getElem hfT)
        have HC2 := hide c2
        clear c2
        have eN : N.getD f [] = N[f] := getD_in _ _ _ hfN
        have eT : T.getD f [] = T[f] := getD_in _ _ _ hfT
        obtain ⟨e1, e2, e3⟩ := HGD.out.rows f hfN
        rw [eN] at e1 e3 HSN
        rw [eT] at e2 HST1
        have HCN := hide (fun W (hW : Below wo.heap.size wo W) => clone_any N[f] _ W (i1.below hW) (by rw [e1]; omega))
        have HCT := hide (fun W (hW : Below w2.heap.size w2 W) => clone_any T[f] _ W (i2.below (HBW.out.trans (hW.mono HBW.out.size))) (by rw [e2]; omega))
        have HE3 := hide e3
        have HIS : Hid (∀ x, x ∈ T[f] → I64 x) := HT.out.small f hfT
        have hlr : N[f].length ≤ 64 := by rw [e1]; exact hk64
        generalize N[f] = r at *
        generalize T[f] = tr at *
        have hji : (j : Int) < (m : Int) := by omega
        have hfi : (f : Int) < (N.length : Int) := by omega
        have hfti : (f : Int) < (T.length : Int) := by omega
        clear hf hjf e1 e2 e3 eN eT i1 i2
        go_wp2_with (go_at_call 20; (with_reducible refine (HCN.out _ (Below.refl _ _)).mono ?_); rintro e w3 ⟨v3, rfl, hrw3, hb3⟩; obtain ⟨va, vc, hv3⟩ := own_slice hrw3; subst hv3; have HRW3 := hide hrw3; have HB3 := hide hb3; clear hrw3 hb3)
        go_loopw [38] (fun i wr => ∃ q : Nat, q ≤ r.length ∧ i = .int .i64 (q : Int) ∧ Hid (Rw wr wo.heap.size (.slice va r.length vc) (mix (ofI (gd N T d).1) r q)) ∧ Hid (Below wo.heap.size wo wr)) (fun i _ => r.length - (intOf i).toNat)
        case atStart => exact ⟨0, Nat.zero_le _, rfl, HRW3.out, HB3.out⟩
        case round =>
          obtain ⟨q, hq, rfl, HQ, HBI⟩ := hrel
          by_cases hqr : q < r.length
          · have hrow : wr.ownsRow wo.heap.size 3 1 (.slice va r.length vc) r.length ((mix (ofI (gd N T d).1) r q).map intV) := by have h := HQ.out; unfold Rw at h; rw [mix_len _ _ _ hq] at h; exact h
            obtain ⟨g, cap, hv, hqg, hgl⟩ := own_addr hrow (by omega)
            simp only [Value.slice.injEq, true_and] at hv
            obtain ⟨rfl, rfl⟩ := hv
            obtain ⟨y, hy⟩ : ∃ y : Nat, r[q] = (y : Int) := ⟨r[q].toNat, by have := (HE3.out _ (List.getElem_mem hqr)).1; omega⟩
            have hyN : y < N.length := by have := (HE3.out _ (List.getElem_mem hqr)).2; omega
            obtain ⟨c3, f3⟩ := own_cell hrow q (.int .i64 (y : Int)) (by rw [List.getElem?_map, mix_get _ _ _ hqr, hy]; rfl)
            have HNQ : Hid (Rw (wr.setCell ⟨g, q, none⟩ (.int .i64 (((gd N T d).1.getD y 0 : Nat) : Int))) wo.heap.size (.slice (some ⟨g, 0, none⟩) r.length vc) (mix (ofI (gd N T d).1) r (q + 1))) := by
              have h := own_set hrow q (.int .i64 (((gd N T d).1.getD y 0 : Nat) : Int))
              have e : ofI (gd N T d).1 r[q] = (((gd N T d).1.getD y 0 : Nat) : Int) := by rw [hy]; rfl
              unfold Rw
              rw [mix_len _ _ _ (by omega), ← mix_set _ _ _ hqr, e, List.map_set]
              exact h
            have c4 : wr.cell? ⟨g2, y, none⟩ = some (.int .i64 (((gd N T d).1.getD y 0 : Nat) : Int)) := by
              have h := kept (W := wo) (W' := wr) HBI.out (kept_low HB.out (RowIs.cell HR2.out y (.int .i64 (((gd N T d).1.getD y 0 : Nat) : Int)) (by rw [List.getElem?_map, ints_get _ y ((gd N T d).1.getD y 0) (by rw [getD_in _ _ _ (by rw [HGI.out.len]; exact hyN), List.getElem?_eq_getElem])]; rfl)) hgl2)
              exact h
            have HBN : Hid (Below wo.heap.size wo (wr.setCell ⟨g, q, none⟩ (.int .i64 (((gd N T d).1.getD y 0 : Nat) : Int)))) := HBI.out.setCell hqg _
            have hqi : (q : Int) < (r.length : Int) := by omega
            have hyi : (y : Int) < (N.length : Int) := by omega
            clear hrow hy
            go_wp2_with fail
            go_roundw
            case rel => exact ⟨q + 1, by omega, by go_num, HNQ.out, HBN.out⟩
            case measure => simp [intOf]; omega
          · have hqe : q = r.length := by omega
            have HRW4 : Hid (Rw wr (w2.heap.size + 1) (.slice va r.length vc) (r.map (ofI (gd N T d).1))) := by have h := HQ.out; rw [hqe, mix_all] at h; exact own_mono h (by have := (Array.getElem?_eq_some_iff.1 HL.out.st).1; omega)
            have HL4 := hide (HL.out.below HBI.out)
            have hzo := (Array.getElem?_eq_some_iff.1 HL4.out.st).1
            have HOWN : Hid (∀ o, (wr.alloc o).ownsRow (w2.heap.size + 1) 31 1 (.slice nva j nvc) j vs) := fun o => by have h := HL4.out.on; rw [HLN.out.1] at h; exact h.alloc o
            have HONE : Hid (∀ u ∈ [Value.slice va r.length vc], u.oneCell' = true) := by
              intro u hu
              simp only [List.mem_cons, List.not_mem_nil, or_false] at hu
              subst hu; rfl
            have HLS : Hid (∀ (o : Obj) (g cap : Nat) (wC : World), wC.ownsRow (w2.heap.size + 1) 31 1 (.slice (some ⟨g, 0, none⟩) (j + 1) cap) (j + 1) (vs ++ [.slice va r.length vc]) → (wr.alloc o).grownBy wC (Value.slice nva j nvc).ownBlock → ((Value.slice nva j nvc).ownBlock = some g ∨ g = wr.heap.size + 1) →
                Lst (w2.heap.size + 1) w2.heap.size (wC.setCell ⟨w2.heap.size, 0, none⟩ (.slice (some ⟨g, 0, none⟩) (j + 1) cap)) ((leastN N T d).take (j + 1)) ((leastT N T d).take j) (.slice (some ⟨g, 0, none⟩) (j + 1) cap) (.slice tva j tvc) (vs ++ [.slice va r.length vc]) us ∧ Below w2.heap.size w2 (wC.setCell ⟨w2.heap.size, 0, none⟩ (.slice (some ⟨g, 0, none⟩) (j + 1) cap)) ∧ (wC.cell? ⟨w2.heap.size, 0, none⟩ = some (.slice nva j nvc) ∧ wC.frozen? ⟨w2.heap.size, 0, none⟩ = false)) := fun o g cap wC h1 h2 h3 => by
              have hno : some w2.heap.size ≠ (Value.slice nva j nvc).ownBlock := fun e => by have := (own_lt HL4.out.on _ e.symm).1; omega
              have hblk : wC.heap[w2.heap.size]? = wr.heap[w2.heap.size]? := (h2.block _ (by simp; omega) hno).trans (Below.heap_alloc _ _ _ hzo)
              refine ⟨?_, ?_, ?_, ?_⟩
              · rw [HSN.out]
                have h := HL4.out.next _ _ HRW4.out o g cap wC (by rw [HLN.out.1]; exact h1) h2 h3
                rw [HLN.out.1] at h
                exact h
              · have hb : Below w2.heap.size w2 wr := HB.out.trans (HBI.out.mono HB.out.size)
                exact ((hb.alloc hb.size o).grown h2 (by simp; omega) (fun k e => by have := (own_lt HL4.out.on k e).1; omega)).setCell (Nat.le_refl _) _
              · exact (heap_cell 0 hblk).trans HL4.out.cells.1
              · rw [Lib.frozen_of_heap (hblk.trans HL4.out.st) 0]
            obtain ⟨l0, l1, lf0, lf1⟩ := HL4.out.cells
            obtain ⟨i0, hi0, hz0, hz1, hz3⟩ := info_parts Tryd.infoInts
            have hqi : ¬ (q : Int) < (r.length : Int) := by omega
            clear HQ HRW3 HRW4
            go_wp2_with (at_builtin; refine wpList_append_lies _ rfl (.tmp 52) (.tmp 54) 22 rfl (w2.heap.size + 1) 31 i0 _ 1 24 Tryd.underlying22 hi0 hz0 hz1 hz3 rfl (by decide) (.slice nva j nvc) j vs rfl (HOWN.out _) ⟨wr.heap.size, 0, none⟩ 1 1 [.slice va r.length vc] rfl rfl (World.news_of_block (heap_alloc_new wr _)) (HONE.out) (by decide) (by unfold maxLen; omega) (by omega) (by simp; omega) (wr.heap.size + 1) (by simp) ?_; intro g5 cap5 wC hown hgrow hat hltg; obtain ⟨hls, hbl, wc0, wf0⟩ := HLS.out _ g5 cap5 wC hown hgrow hat; have HL5 := hide hls; have HB5 := hide hbl; clear hls hbl hown hgrow hat)
            obtain ⟨w5, hw5⟩ : ∃ w5, w5 = wC.setCell ⟨w2.heap.size, 0, none⟩ (.slice (some ⟨g5, 0, none⟩) (j + 1) cap5) := ⟨_, rfl⟩
            rw [← hw5] at HL5 HB5 ⊢
            clear hw5 wc0 wf0 l0 l1 lf0 lf1 HL4 HLS HOWN HONE
            obtain ⟨l0, l1, lf0, lf1⟩ := HL5.out.cells
            obtain ⟨tc0, tc1⟩ := Tab.below HTB2.out HB5.out
            have c5 : w5.cell? ⟨gT, oT + f, none⟩ = some (.slice u2 tr.length d2) := kept (HBW.out.trans (HB5.out.mono HBW.out.size)) HC2.out
            have hz5 := (Array.getElem?_eq_some_iff.1 HL5.out.st).1
            have HC5 := hide (HCT.out w5.drew (HB5.out.trans ⟨rfl, rfl, rfl, Nat.le_refl _, fun _ _ => rfl⟩))
            have HK6 : Hid (∀ w6, Below w5.heap.size w5 w6 → w6.cell? ⟨w2.heap.size, 1, none⟩ = some (.slice tva j tvc) ∧ w6.cell? ⟨w2.heap.size, 0, none⟩ = some (.slice (some ⟨g5, 0, none⟩) (j + 1) cap5) ∧ w2.heap.size < w6.heap.size) := fun w6 h => ⟨kept h l1, kept h l0, by have := h.size; omega⟩
            have HOWN : Hid (∀ w6 o, Below w5.heap.size w5 w6 → (w6.alloc o).ownsRow (w2.heap.size + 1) 31 1 (.slice tva j tvc) j us) := fun w6 o hb => by have h := own_below HL5.out.ot hb; rw [HLN.out.2] at h; exact h.alloc o
            have HONE : Hid (∀ a n c, ∀ u ∈ [Value.slice a n c], u.oneCell' = true) := by
              intro a n c u hu
              simp only [List.mem_cons, List.not_mem_nil, or_false] at hu
              subst hu; rfl
            have HLS : Hid (∀ (w6 : World) (v6 : Value) (o : Obj) (g cap : Nat) (wC : World), Below w5.heap.size w5 w6 → Rw w6 w5.heap.size v6 tr → wC.ownsRow (w2.heap.size + 1) 31 1 (.slice (some ⟨g, 0, none⟩) (j + 1) cap) (j + 1) (us ++ [v6]) → (w6.alloc o).grownBy wC (Value.slice tva j tvc).ownBlock → ((Value.slice tva j tvc).ownBlock = some g ∨ g = w6.heap.size + 1) →
                Lst (w2.heap.size + 1) w2.heap.size (wC.setCell ⟨w2.heap.size, 1, none⟩ (.slice (some ⟨g, 0, none⟩) (j + 1) cap)) ((leastN N T d).take (j + 1)) ((leastT N T d).take (j + 1)) (.slice (some ⟨g5, 0, none⟩) (j + 1) cap5) (.slice (some ⟨g, 0, none⟩) (j + 1) cap) (vs ++ [.slice va r.length vc]) (us ++ [v6]) ∧ Below w2.heap.size w2 (wC.setCell ⟨w2.heap.size, 1, none⟩ (.slice (some ⟨g, 0, none⟩) (j + 1) cap)) ∧ (wC.cell? ⟨w2.heap.size, 1, none⟩ = some (.slice tva j tvc) ∧ wC.frozen? ⟨w2.heap.size, 1, none⟩ = false)) := fun w6 v6 o g cap wC h0 hv6 h1 h2 h3 => by
              have HL6 := HL5.out.below h0
              have hz6 := (Array.getElem?_eq_some_iff.1 HL6.st).1
              have hno : some w2.heap.size ≠ (Value.slice tva j tvc).ownBlock := fun e => by have := (own_lt HL6.ot _ e.symm).1; omega
              have hblk : wC.heap[w2.heap.size]? = w6.heap[w2.heap.size]? := (h2.block _ (by simp; omega) hno).trans (Below.heap_alloc _ _ _ hz6)
              refine ⟨?_, ?_, ?_, ?_⟩
              · rw [HST1.out]
                have h := HL6.tells v6 tr (own_mono hv6 (by omega)) o g cap wC (by rw [HLN.out.2]; exact h1) h2 h3
                rw [HLN.out.2] at h
                exact h
              · have hb : Below w2.heap.size w2 w6 := HB5.out.trans (h0.mono HB5.out.size)
                exact ((hb.alloc hb.size o).grown h2 (by simp; omega) (fun k e => by have := (own_lt HL6.ot k e).1; omega)).setCell (Nat.le_refl _) _
              · exact (heap_cell 1 hblk).trans HL6.cells.2.1
              · rw [Lib.frozen_of_heap (hblk.trans HL6.st) 1]
            have HDR := hide (drewB w5)
            clear HCT HCN HL HBI HB3 HB HL5 HB5
            go_region_law (first
              | (refine step_append_lies _ rfl (.tmp 58) (.tmp 65) 22 rfl (w2.heap.size + 1) 31 i0 _ 1 24 Tryd.underlying22 hi0 hz0 hz1 hz3 rfl (by decide) (.slice tva j tvc) j us rfl (HOWN.out w6 _ HB6.out) ⟨w6.heap.size, 0, none⟩ 1 1 [.slice va6 tr.length vc6] rfl rfl (World.news_of_block (heap_alloc_new w6 _)) (HONE.out _ _ _) (by decide) (by unfold maxLen; omega) (by omega) (by simp; omega) (w6.heap.size + 1) (by simp) ?_; intro g7 cap7 wD hown hgrow hat hltg; obtain ⟨hls, hbl, wd0, wdf⟩ := HLS.out w6 _ _ g7 cap7 wD HB6.out HRW6.out hown hgrow hat; have HL7 := hide hls; have HB7 := hide hbl; clear hls hbl hown hgrow hat)
              | (go_simp; go_at_call 20; (with_reducible refine HC5.out.mono ?_); rintro e w6 ⟨v6, rfl, hrw6, hb6⟩; obtain ⟨va6, vc6, hv6⟩ := own_slice hrw6; subst hv6; have HRW6 : Hid (Rw w6 w5.heap.size (.slice va6 tr.length vc6) tr) := hrw6; have HB6 : Hid (Below w5.heap.size w5 w6) := then_ HDR.out hb6; obtain ⟨y1, y0, yz⟩ := HK6.out w6 HB6.out; clear hrw6 hb6))
            all_goals
              go_wp2_with fail
              go_roundw
              case rel => exact ⟨j + 1, by omega, by go_num, _, _, _, _, HL7.out, HB7.out⟩
              case measure => simp [intOf]; omega
      · have hjm : j = m := by omega
        subst hjm
        have HROWS : Hid (∀ W, Lst (w2.heap.size + 1) w2.heap.size W ((leastN N T d).take j) ((leastT N T d).take j) (.slice nva j nvc) (.slice tva j tvc) vs us → Rows W (.slice nva j nvc) (leastN N T d) ∧ Rows W (.slice tva j tvc) (leastT N T d)) := fun W hL => by
          have h1 : (leastN N T d).take j = leastN N T d := List.take_of_length_le (by rw [leastN, List.length_map, ← HM.out]; omega)
          have h2 : (leastT N T d).take j = leastT N T d := List.take_of_length_le (by rw [leastT, List.length_map, ← HM.out]; omega)
          rw [h1, h2] at hL
          have hf : ∀ f, f ∈ (gd N T d).2 → f < N.length := HGI.out.mem_lt
          refine ⟨rows_own hL.on hL.rn (by rw [leastN, List.length_map, ← HM.out]; unfold maxLen; omega) (fun r hr => ?_), rows_own hL.ot hL.rt (by rw [leastT, List.length_map, ← HM.out]; unfold maxLen; omega) (fun r hr => ?_)⟩
          · obtain ⟨f, hf1, rfl⟩ := List.mem_map.1 hr
            obtain ⟨e1, _, _⟩ := HGD.out.rows f (hf f hf1)
            refine ⟨by rw [List.length_map, e1]; unfold maxLen; omega, fun x hx => ?_⟩
            obtain ⟨y, _, rfl⟩ := List.mem_map.1 hx
            have hof : (gd N T d).1.getD y.toNat 0 ≤ 500 := of_small HGI.out hn5 _
            unfold ofI I64
            omega
          · obtain ⟨f, hf1, rfl⟩ := List.mem_map.1 hr
            obtain ⟨_, e2, _⟩ := HGD.out.rows f (hf f hf1)
            have hfT : f < T.length := by rw [HGD.out.tells]; exact hf f hf1
            refine ⟨by rw [e2]; unfold maxLen; omega, fun x hx => ?_⟩
            rw [getD_in _ _ _ hfT] at hx
            exact HT.out.small f hfT x hx
        have HFIN : Hid (∀ x_ y_, LeastDone w N T (.returned (.tuple #[.agg #[.slice nva j nvc, .slice tva j tvc], .nilIface])) ((wo.setCell ⟨w.heap.size + 1, 0, none⟩ x_).setCell ⟨w.heap.size + 1, 1, none⟩ y_)) := fun x_ y_ => by
          obtain ⟨r1, r2⟩ := HROWS.out _ ((HL.out.low_set (w.heap.size + 1) 0 x_ (by omega)).low_set (w.heap.size + 1) 1 y_ (by omega))
          refine ⟨((HBW.out.trans (HB.out.mono HBW.out.size)).setCell (by show w.heap.size ≤ w.heap.size + 1; omega) _).setCell (by show w.heap.size ≤ w.heap.size + 1; omega) _, .inr ⟨HCK.out, d, _, _, hd, HSTB.out, rfl, r1, r2⟩⟩
        obtain ⟨l0, l1, _, _⟩ := HL.out.cells
        have hst := (HB.out.block _ (by omega)).trans HRS2.out
        obtain ⟨z0, z1, z2, z3⟩ : wo.cell? ⟨w.heap.size + 1, 0, none⟩ = some (.slice none 0 0) ∧ wo.cell? ⟨w.heap.size + 1, 1, none⟩ = some (.slice none 0 0) ∧ wo.frozen? ⟨w.heap.size + 1, 0, none⟩ = false ∧ wo.frozen? ⟨w.heap.size + 1, 1, none⟩ = false :=
          ⟨by rw [Lib.cell_of_heap hst]; rfl, by rw [Lib.cell_of_heap hst]; rfl, Lib.frozen_of_heap hst 0, Lib.frozen_of_heap hst 1⟩
        have hji : ¬ (j : Int) < (j : Int) := by omega
        clear hst HL HROWS
        go_wp2_with fail
        refine bodyPost_ret_by (v := .tuple #[.agg #[.slice nva j nvc, .slice tva j tvc], .nilIface]) ?_ rfl ?_
        · simp [results, Tryd.results7, go_sem, z0, z1]
        · exact HFIN.out _ _
  | some r =>
    obtain ⟨t, y, rfl⟩ := he.iface (by rw [hck]; simp)
    obtain ⟨z0, z1, z2, z3⟩ : w1.cell? ⟨w.heap.size + 1, 0, none⟩ = some (.slice none 0 0) ∧ w1.cell? ⟨w.heap.size + 1, 1, none⟩ = some (.slice none 0 0) ∧ w1.frozen? ⟨w.heap.size + 1, 0, none⟩ = false ∧ w1.frozen? ⟨w.heap.size + 1, 1, none⟩ = false :=
      ⟨by rw [Lib.cell_of_heap HRS1.out]; rfl, by rw [Lib.cell_of_heap HRS1.out]; rfl, Lib.frozen_of_heap HRS1.out 0, Lib.frozen_of_heap HRS1.out 1⟩
    have HE := hide he
    have HCK : Hid (check N T ≠ none) := fun h => by rw [hck] at h; cases h
    clear hb1 he hck HC HBL
    have HFIN : Hid (∀ x_ y_, LeastDone w N T (.returned (.tuple #[.agg #[.slice none 0 0, .slice none 0 0], .iface t y])) ((w1.setCell ⟨w.heap.size + 1, 0, none⟩ x_).setCell ⟨w.heap.size + 1, 1, none⟩ y_)) := fun x_ y_ => by
      have hb : Below w.heap.size w ((w1.setCell ⟨w.heap.size + 1, 0, none⟩ x_).setCell ⟨w.heap.size + 1, 1, none⟩ y_) := ((then_ HBA.out HB1.out).setCell (by show w.heap.size ≤ w.heap.size + 1; omega) _).setCell (by show w.heap.size ≤ w.heap.size + 1; omega) _
      refine ⟨hb, .inl ⟨HCK.out, _, rfl, ?_⟩⟩
      have hst : ∀ (a i : Nat) u, w1.cell? ⟨a, i, none⟩ = some (.int .i64 u) → ((w1.setCell ⟨w.heap.size + 1, 0, none⟩ x_).setCell ⟨w.heap.size + 1, 1, none⟩ y_).cell? ⟨a, i, none⟩ = some (.int .i64 u) := fun a i u hu => by
        have hne : a ≠ w.heap.size + 1 := fun e => by
          subst e
          rw [Lib.cell_of_heap HRS1.out] at hu
          match i with
          | 0 => simp at hu
          | 1 => simp at hu
          | i + 2 => simp at hu
        exact cell_set_block _ _ _ _ _ _ _ hne (cell_set_block _ _ _ _ _ _ _ hne hu)
      have h := HE.out
      match hc : check N T, h with
      | none, h => exact absurd hc HCK.out
      | some (_, none), h => exact h
      | some (_, some _), ⟨a, h1, h2, h3⟩ => exact ⟨a, h1, hst _ _ _ h2, hst _ _ _ h3⟩
    go_wp2_with fail
    refine bodyPost_ret_by (v := .tuple #[.agg #[.slice none 0 0, .slice none 0 0], .iface t y]) ?_ rfl ?_
    · simp [results, Tryd.results7, go_sem, z0, z1]
    · exact HFIN.out _ _
end Bk
end Go.Proofs.YtdeijfkahhgojaaDoor
