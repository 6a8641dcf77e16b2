/-
  The walk of the document's own Least (9.2).
-/
import Derived.Test.YtdeijfkahhgojaaDoorRkBlocks
import Derived.Test.YtdeijfkahhgojaaDoorRkMid
import Derived.Test.YtdeijfkahhgojaaDoorBkLeast
import Derived.Test.YtdeijfkahhgojaaDoorRkUntil
namespace Go.Proofs.YtdeijfkahhgojaaDoor
namespace Bk
open Go.RowKit
theorem heap_alloc_at (W : World) (o : Obj) (b : Nat) (hb : b = W.heap.size) : (W.alloc o).heap[b]? = some o := by subst hb; exact heap_alloc_new W o
theorem own_zero_at {W : World} {b q : Nat} (h : W.heap[b]? = some (.cells #[] 3 (0, 0))) (hq : q ≤ b) : W.ownsRow q 3 1 (.slice (some ⟨b, 0, none⟩) 0 0) 0 [] :=
  ⟨rfl, .inr ⟨b, 0, #[], rfl, hq, h, Nat.le_refl _, by decide, rfl, rfl⟩⟩
theorem ints_low {W X : World} {n k : Nat} {ut : Option Addr} {dt : Nat} {l : List Int} (h : Ints W (.slice ut k dt) l) (hlow : ∀ (g o j : Nat) (x : Int), ut = some ⟨g, o, none⟩ → l[j]? = some x → g < n) (hb : Below n W X) : Ints X (.slice ut k dt) l := by
  obtain ⟨a, c, h1, h2, h3⟩ := h
  refine ⟨a, c, h1, h2, fun j x hx => ?_⟩
  obtain ⟨g, o, e1, e2, e3, e4⟩ := h3 j x hx
  simp only [Value.slice.injEq] at h1
  exact ⟨g, o, e1, e2, kept_low hb e3 (hlow g o j x (h1.1.trans e1) hx), e4⟩
/-- a row is appended to a new one -/
theorem app_row {X : World} {b q k dt : Nat} {ut : Option Addr} {l : List Int} (hb : X.heap[b]? = some (.cells #[] 3 (0, 0))) (hq : q ≤ b) (hl : l.length ≤ 1000) (hk : l.length = k) (hi : Ints X (.slice ut k dt) l) :
    ∃ v' X', (Builtin.append_ #[31, 31] 31 #[.slice (some ⟨b, 0, none⟩) 0 0, .slice ut k dt]).run Tryd.prog X = .ok v' X' ∧ Rw X' q v' l ∧ X.grownBy X' (some b) ∧ ∃ a n c, v' = .slice a n c := by
  obtain ⟨i0, hi0, hz0, hz1, hz2⟩ := info_parts Tryd.infoInt
  have hown := own_zero_at hb hq
  subst hk
  cases l with
  | nil => exact ⟨_, X, append_zero q _ _ _ i0 1 Tryd.underlying31 hi0 _ _ _ hown ut dt, hown, ⟨rfl, rfl, rfl, Nat.le_refl _, fun _ _ _ => rfl⟩, _, _, _, rfl⟩
  | cons u0 ur =>
    obtain ⟨g, o, rfl, _, _⟩ := hi.cell 0 u0 rfl
    have hbX := (Array.getElem?_eq_some_iff.1 hb).1
    obtain ⟨v', W', h1, h2, h3, h4, h5⟩ := run_append_own_at (P := Tryd.prog) X q 31 31 3 i0 _ 1 8 Tryd.underlying31 hi0 hz0 hz1 hz2 rfl (by decide) (.slice (some ⟨b, 0, none⟩) 0 0) 0 [] hown ⟨g, o, none⟩ (u0 :: ur).length dt ((u0 :: ur).map intV) (by simp) (fun j u hu => by
        rw [List.getElem?_map, Option.map_eq_some_iff] at hu
        obtain ⟨x, hx, rfl⟩ := hu
        obtain ⟨g', o', e1, e3, _⟩ := hi.cell j x hx
        simp only [Option.some.injEq, Addr.mk.injEq, and_true] at e1
        obtain ⟨rfl, rfl⟩ := e1
        rw [add_plain]
        exact e3) (fun u hu => by
        obtain ⟨x, _, rfl⟩ := List.mem_map.1 hu
        rfl) (by simp only [List.length_cons] at hl ⊢; unfold maxLen; omega) (by simp only [List.length_cons] at hl ⊢; omega) (by omega)
    have hv : ∃ c' cap', v' = .slice (some ⟨c', 0, none⟩) (0 + (u0 :: ur).length) cap' := by
      rcases h2.2 with ⟨h, h0⟩ | ⟨g', cap', cur, e1, _⟩
      · simp at h0
      · exact ⟨g', cap', e1⟩
    obtain ⟨c', cap', rfl⟩ := hv
    refine ⟨_, W', h1, ?_, h3, _, _, _, rfl⟩
    unfold Rw
    rw [Nat.zero_add, List.nil_append] at h2
    rw [Nat.zero_add]
    exact h2
/-- what the document's Least comes to -/
def RLeastDone (w : World) (N T : List (List Int)) (e : Ending) (w' : World) : Prop := Below w.heap.size w w' ∧ ∃ D nv tv, Stable (tab N T) D ∧ e = .returned (.agg #[nv, tv]) ∧ Rows w' nv (leastN N T D) ∧ Rows w' tv (leastT N T D)
set_option maxHeartbeats 16000000 in
set_option maxRecDepth 100000 in
theorem RLeast_any (N T : List (List Int)) (nv tv : Value) (w : World) (hG : Good N T) (hN : Rows w nv N) (hT : Rows w tv T) :
    Calls Tryd.prog 10 #[.agg #[nv, tv]] w (RLeastDone w N T) := by
  obtain ⟨i0, hi0, hz0, hz1, hz2⟩ := info_parts Tryd.infoInt
  obtain ⟨i3, hi3, hz3, hz4, hz5⟩ := info_parts Tryd.infoInts
  obtain ⟨wA, hwA⟩ : ∃ wA, wA = w.alloc (.cells #[nv, tv] 25) := ⟨_, rfl⟩
  obtain ⟨wB, hwB⟩ : ∃ wB, wB = wA.alloc (.cells #[.slice none 0 0, .slice none 0 0] 25) := ⟨_, rfl⟩
  have hzA : wA.heap.size = w.heap.size + 1 := by rw [hwA]; simp
  have hBA : Below w.heap.size w wA := by rw [hwA]; exact (Below.refl _ _).alloc (Nat.le_refl _) _
  have hBB : Below wA.heap.size wA wB := by rw [hwB]; exact (Below.refl _ _).alloc (Nat.le_refl _) _
  have hWB := then_ hBA hBB
  have hTA : Tab wB w.heap.size nv tv := by refine Tab.below ?_ hBB; rw [hwA]; exact TabR.new _ _ _
  have HRS : Hid (wB.heap[w.heap.size + 1]? = some (.cells #[.slice none 0 0, .slice none 0 0] 25 (0, 0))) := by
    rw [hwB, ← hzA]; exact heap_alloc_new _ _
  have HC := hide (RBlocks_any N T nv tv wB hG (hN.below hWB) (hT.below hWB))
  have HN := hide (hN.below hWB)
  have HT := hide (hT.below hWB)
  obtain ⟨gN, oN, nc, rfl⟩ := hN.base hG.pos
  obtain ⟨gT, oT, tc, rfl⟩ := hT.base (by have := hG.tells; have := hG.pos; omega)
  have HTA := hide hTA
  have HBA := hide hWB
  have HG := hide hG
  have hn5 := hG.few
  have hk64 := hG.ins
  obtain ⟨t0, t1⟩ := HTA.out
  clear hN hT hBA hTA hG hWB hBB
  go_enter Tryd.func10, Tryd.ntmps10
  go_wp2_with fail
  rw [← hwA, ← hwB]
  clear hwA hwB
  refine HC.out.mono ?_
  rintro e w1 ⟨hb1, D, v, hst, rfl, hv⟩
  have HB1 := hide hb1
  have HST := hide hst
  have HV := hide hv
  obtain ⟨la, lc, rfl⟩ := own_slice hv
  have HGI : Hid (GInv (eqB (tab N T) D) N.length (gd N T D).1 (gd N T D).2) := inv_grp (eqv_eqB (tab N T) D) N.length (Nat.le_refl _)
  have hml : (gd N T D).2.length ≤ 500 := Nat.le_trans (firsts_le _) hn5
  rw [ints_len, HGI.out.len] at HV ⊢
  have HLI : Hid (Ints w1 (.slice la N.length lc) (ints (gd N T D).1)) := HV.out.ints (by rw [ints_len, HGI.out.len]; unfold maxLen; omega) (fun x hx => by
    obtain ⟨j, hj⟩ := List.getElem?_of_mem hx
    have hjs : j < N.length := by have := (List.getElem?_eq_some_iff.1 hj).1; rw [ints_len, HGI.out.len] at this; exact this
    obtain ⟨q, f, e1, e2, _⟩ := HGI.out.has j hjs
    have hq := (List.getElem?_eq_some_iff.1 e2).1
    rw [ints_get _ _ _ e1] at hj
    cases hj
    unfold I64; omega)
  have HTB := hide (HTA.out.below hb1)
  have HRS1 : Hid (w1.heap[w.heap.size + 1]? = some (.cells #[.slice none 0 0, .slice none 0 0] 25 (0, 0))) := (hb1.block _ (Array.getElem?_eq_some_iff.1 HRS.out).1).trans HRS.out
  have hz1w : w.heap.size + 1 < w1.heap.size := by have := (Array.getElem?_eq_some_iff.1 HRS1.out).1; omega
  obtain ⟨t0, t1⟩ := HTB.out
  obtain ⟨wL, hwL⟩ : ∃ wL, wL = w1.alloc (.cells #[.slice none 0 0, .slice none 0 0] 25) := ⟨_, rfl⟩
  have HBL : Hid (Below w1.heap.size w1 wL) := by rw [hwL]; exact (Below.refl _ _).alloc (Nat.le_refl _) _
  have HL0 : Hid (RLst (w1.heap.size + 1) w1.heap.size wL [] [] (.slice none 0 0) (.slice none 0 0) [] []) :=
    ⟨by omega, by rw [hwL]; exact heap_alloc_new _ _, World.ownsRow_nil _ _ _ _, World.ownsRow_nil _ _ _ _, fun i r hr => by simp at hr, fun i r hr => by simp at hr, .inl rfl⟩
  clear hb1 hst hv HC
  obtain ⟨m, hm⟩ : ∃ m, m = (gd N T D).2.length := ⟨_, rfl⟩
  have HM := hide hm
  rw [← hm] at hml
  clear hm
  go_wp2_with fail
  rw [← hwL]
  clear hwL
  go_loopw [5] (fun i wr => ∃ j : Nat, j ≤ m ∧ i = .int .i64 (j : Int) ∧ ∃ nv tv vs us, Hid (RLst (w1.heap.size + 1) w1.heap.size wr ((leastN N T D).take j) ((leastT N T D).take j) nv tv vs us) ∧ Hid (Below w1.heap.size w1 wr)) (fun i _ => m + 1 - (intOf i).toNat)
  case atStart => exact ⟨0, Nat.zero_le _, rfl, _, _, _, _, by rw [List.take_zero, List.take_zero]; exact HL0.out, HBL.out⟩
  case round =>
    obtain ⟨j, hj, rfl, nv, tv, vs, us, HL, HB⟩ := hrel
    have HLN : Hid (((leastN N T D).take j).length = j ∧ ((leastT N T D).take j).length = j) := by
      have h1 : (leastN N T D).length = m := by rw [leastN, List.length_map, HM.out]
      have h2 : (leastT N T D).length = m := by rw [leastT, List.length_map, HM.out]
      exact ⟨by rw [List.length_take]; omega, by rw [List.length_take]; omega⟩
    obtain ⟨nva, nvc, hnv⟩ := own_slice HL.out.on
    obtain ⟨tva, tvc, htv⟩ := own_slice HL.out.ot
    rw [HLN.out.1] at hnv
    rw [HLN.out.2] at htv
    subst hnv
    subst htv
    obtain ⟨wo, hwo⟩ : ∃ wo, wo = wr := ⟨_, rfl⟩
    subst hwo
    go_wp2_with fail
    go_loopw [6] (fun i wr => ∃ s : Nat, s ≤ N.length ∧ i = .int .i64 (s : Int) ∧ Hid (∀ r, r < s → (gd N T D).1[r]? ≠ some j) ∧ Hid (wr = wo)) (fun i _ => N.length - (intOf i).toNat)
    case atStart => exact ⟨0, Nat.zero_le _, rfl, fun r hr => by omega, rfl⟩
    case round =>
      obtain ⟨s, hs, rfl, HNO, HWR⟩ := hrel
      obtain rfl := HWR.out
      by_cases hlt : s < N.length
      · have hsi : (s : Int) < (N.length : Int) := by omega
        obtain ⟨q, f, e1, e2, e3, e4⟩ := HGI.out.has s hlt
        obtain ⟨gl, ol, rfl, cl, _⟩ := (HLI.out.below HB.out).cell s _ (ints_get _ _ _ e1)
        have hqm : q < m := by rw [HM.out]; exact (List.getElem?_eq_some_iff.1 e2).1
        by_cases hqj : q = j
        · subst hqj
          have hfs : f = s := by
            rcases Nat.lt_or_ge f s with h | h
            · exact absurd (HGI.out.lt q f e2).2 (HNO.out f h)
            · omega
          subst hfs
          have hsn : ¬ (f : Int) = (N.length : Int) := by omega
          have hsb : ((f : Int) == (N.length : Int)) = false := by simpa using hsn
          obtain ⟨wo, hwo⟩ : ∃ wo, wo = wr := ⟨_, rfl⟩
          subst hwo
          have hfn : f < N.length := hlt
          obtain ⟨tb0, tb1⟩ := HTB.out.below HB.out
          have HNW := hide (HN.out.below (then_ HB1.out HB.out))
          have HTW := hide (HT.out.below (then_ HB1.out HB.out))
          obtain ⟨ua, da, ca, ia⟩ := HNW.out.at f hfn
          obtain ⟨k, hk⟩ : ∃ k, k = (N.getD 0 []).length := ⟨_, rfl⟩
          have HK := hide hk
          have HRL : Hid ((N.getD f []).length = k ∧ (T.getD f []).length = k) := ⟨by rw [hk]; exact (HG.out.rows f hfn).1, by rw [hk]; exact (HG.out.rows f hfn).2.1⟩
          rw [HRL.out.1] at ca ia
          rw [← hk] at hk64
          have HIA := hide ia
          obtain ⟨R, hR⟩ : ∃ R, R = (N.getD f []).map (ofI (gd N T D).1) := ⟨_, rfl⟩
          have HR := hide hR
          have HRn : Hid (R.length = k) := by show _ = _; rw [hR, List.length_map, HRL.out.1]
          have HE1 := hide e1
          have HE2 := hide e2
          clear hk hR ia e1 e2 e3 e4
          go_wp2_with fail
          go_loopw [7, 39] (fun xv iv wr => ∃ i : Nat, i ≤ k ∧ iv = .int .i64 (i : Int) ∧ (∃ a c, xv = .slice a i c) ∧ Hid (Rw wr wo.heap.size xv (R.take i)) ∧ Hid (Below wo.heap.size wo wr)) (fun _ iv _ => k - (intOf iv).toNat)
          case atStart => exact ⟨0, Nat.zero_le _, rfl, ⟨_, _, rfl⟩, by rw [List.take_zero]; exact World.ownsRow_nil _ _ _ _, Below.refl _ _⟩
          case round =>
            obtain ⟨i, hi, rfl, ⟨xa, xc, rfl⟩, HX, HBX⟩ := hrel
            have HTK : Hid ((R.take i).length = i) := by show _ = _; rw [List.length_take, HRn.out]; omega
            by_cases hlt3 : i < k
            · have hki : (i : Int) < (k : Int) := by omega
              have hnx := HG.out.next f hfn i (by rw [← HK.out]; exact hlt3)
              have hyN : (tab N T).nx f i < N.length := HG.out.ok f hfn i (by show i < (N.getD 0 []).length; rw [← HK.out]; exact hlt3)
              obtain ⟨gx, ox, rfl, cx, _⟩ := (HIA.out.below HBX.out).cell i _ hnx
              generalize hy : (tab N T).nx f i = y at *
              obtain ⟨qy, fy, ey1, ey2, _⟩ := HGI.out.has y hyN
              obtain ⟨gl', ol', el, cly, _⟩ := (HLI.out.below (then_ HB.out HBX.out)).cell y _ (ints_get _ _ _ ey1)
              simp only [Option.some.injEq, Addr.mk.injEq, and_true] at el
              obtain ⟨rfl, rfl⟩ := el
              have HRS : Hid (R.take (i + 1) = R.take i ++ [(qy : Int)]) := by
                have h1 : R[i]? = some (qy : Int) := by
                  rw [HR.out, List.getElem?_map, hnx]
                  show some (ofI (gd N T D).1 ((y : Nat) : Int)) = _
                  unfold ofI
                  rw [Int.toNat_natCast, List.getD_eq_getElem?_getD, ey1]; rfl
                obtain ⟨h2, h3⟩ := List.getElem?_eq_some_iff.1 h1
                show _ = _
                rw [List.take_succ_eq_append_getElem h2, h3]
              have hyi : (y : Int) < (N.length : Int) := by omega
              have hzw : wo.heap.size ≤ wr.heap.size := HBX.out.size
              have HOWN : Hid (∀ o, (wr.alloc o).ownsRow wo.heap.size 3 1 (.slice xa i xc) i ((R.take i).map intV)) := fun o => by have h := HX.out; unfold Rw at h; rw [HTK.out] at h; exact h.alloc o
              have HONE : Hid (∀ x : Int, ∀ u ∈ [Value.int .i64 x], u.oneCell' = true) := by
                intro x u hu
                simp only [List.mem_cons, List.not_mem_nil, or_false] at hu
                subst hu; rfl
              have HAPP : Hid (∀ (x : Int) (o : Obj) (g2 cap2 : Nat) (wC : World), wC.ownsRow wo.heap.size 3 1 (.slice (some ⟨g2, 0, none⟩) (i + 1) cap2) (i + 1) ((R.take i).map intV ++ [.int .i64 x]) → (wr.alloc o).grownBy wC (Value.slice xa i xc).ownBlock → Rw wC wo.heap.size (.slice (some ⟨g2, 0, none⟩) (i + 1) cap2) (R.take i ++ [x]) ∧ Below wo.heap.size wo wC) := fun x o g2 cap2 wC h1 h2 => by
                have h := rw_app HX.out HBX.out.size x o g2 cap2 (by rw [HTK.out]; exact h1) h2
                rw [HTK.out] at h
                exact ⟨h.1, HBX.out.trans h.2⟩
              clear hnx hy ey1 ey2
              go_wp2_with (at_builtin; refine wpList_append_lies _ rfl (.tmp 43) (.tmp 48) 31 rfl wo.heap.size 3 i0 _ 1 8 Tryd.underlying31 hi0 hz0 hz1 hz2 rfl (by decide) (.slice xa i xc) i ((R.take i).map intV) rfl (HOWN.out _) ⟨wr.heap.size, 0, none⟩ 1 1 [.int .i64 (qy : Int)] rfl rfl (World.news_of_block (heap_alloc_new wr _)) (HONE.out _) (by decide) (by unfold maxLen; omega) (by omega) (by simp; omega) (wr.heap.size + 1) (by simp) ?_; intro g2 cap2 wC hown hgrow hat hltg; obtain ⟨ha1, ha2⟩ := HAPP.out _ _ g2 cap2 wC hown hgrow; have HA1 := hide ha1; have HA2 := hide ha2; clear hown hgrow hat ha1 ha2)
              go_roundw
              case rel => exact ⟨i + 1, by omega, by go_num, ⟨_, _, rfl⟩, by rw [HRS.out]; exact HA1.out, HA2.out⟩
              case measure => simp [intOf]; omega
            · have hik : i = k := by omega
              subst hik
              have HTI : Hid (R.take i = R) := List.take_of_length_le (by rw [HRn.out]; exact Nat.le_refl _)
              have HXR : Hid (Rw wr wo.heap.size (.slice xa i xc) R) := by have h := HX.out; rw [HTI.out] at h; exact h
              have HLr := hide (HL.out.below HBX.out)
              obtain ⟨l0, l1, lf0, lf1⟩ := HLr.out.cells
              obtain ⟨tb0, tb1⟩ := Tab.below ⟨tb0, tb1⟩ HBX.out
              obtain ⟨ut, dt, ct, it⟩ := (HTW.out.below HBX.out).at f (by rw [HG.out.tells]; exact hfn)
              rw [HRL.out.2] at ct it
              have HIT := hide it
              have HGTL : Hid (gT < w1.heap.size) := by
                obtain ⟨_, _, ct0, _⟩ := HT.out.at f (by rw [HG.out.tells]; exact hfn)
                have h1 := World.block_lt_of_cell? _ _ ct0
                have h2 := HB1.out.size
                show gT < _
                exact Nat.lt_of_lt_of_le h1 h2
              have HGT2 : Hid (∀ (g o j : Nat) (x : Int), ut = some ⟨g, o, none⟩ → (T.getD f [])[j]? = some x → g < w1.heap.size) := fun g o j x e hx => by
                obtain ⟨u0, dd0, ct0, it0⟩ := HT.out.at f (by rw [HG.out.tells]; exact hfn)
                have h1 := kept (then_ HB1.out (then_ HB.out HBX.out)) ct0
                rw [ct] at h1
                simp only [Option.some.injEq, Value.slice.injEq] at h1
                obtain ⟨g', o', e', c', _⟩ := it0.cell j x hx
                rw [← h1.1, e] at e'
                simp only [Option.some.injEq, Addr.mk.injEq, and_true] at e'
                rw [e'.1]
                exact Nat.lt_of_lt_of_le (World.block_lt_of_cell? _ _ c') HB1.out.size
              clear it
              obtain ⟨wd, hwd⟩ : ∃ wd, wd = wr.drew := ⟨_, rfl⟩
              have HBd : Hid (Below wr.heap.size wr wd) := by rw [hwd]; exact drewB wr
              have hzd : wd.heap.size = wr.heap.size := by rw [hwd]; rfl
              have HLd := hide (HLr.out.below HBd.out)
              have HXd : Hid (Rw wd (w1.heap.size + 1) (.slice xa i xc) R) := own_mono (own_below HXR.out HBd.out) (by have := (Array.getElem?_eq_some_iff.1 HL.out.st).1; omega)
              have hzb : w1.heap.size < wr.heap.size := by have := (Array.getElem?_eq_some_iff.1 HLr.out.st).1; omega
              have HONE : Hid (∀ u ∈ [Value.slice xa i xc], u.oneCell' = true) := by
                intro u hu
                simp only [List.mem_cons, List.not_mem_nil, or_false] at hu
                subst hu; rfl
              have HOWN : Hid (∀ W, Below wd.heap.size wd W → W.ownsRow (w1.heap.size + 1) 31 1 (.slice nva q nvc) q vs) := fun W hW => by have h := own_below HLd.out.on hW; rw [HLN.out.1] at h; exact h
              have HA4 : Hid (∀ (W wC : World) (g4 c4 : Nat), Below wd.heap.size wd W → wC.ownsRow (w1.heap.size + 1) 31 1 (.slice (some ⟨g4, 0, none⟩) (q + 1) c4) (q + 1) (vs ++ [.slice xa i xc]) → W.grownBy wC (Value.slice nva q nvc).ownBlock → ((Value.slice nva q nvc).ownBlock = some g4 ∨ g4 = W.heap.size) → g4 < wC.heap.size → Mid (w1.heap.size + 1) w1.heap.size wd wC ((leastN N T D).take q) ((leastT N T D).take q) (.slice nva q nvc) (.slice tva q tvc) vs us R (.slice xa i xc) g4 c4) := fun W wC g4 c4 hW h1 h2 h3 h4 => Mid.first HLd.out HXd.out hW wC (by rw [HLN.out.1]; exact h1) h2 h3 h4
              have HCEL : Hid (∀ X g4 c4, Mid (w1.heap.size + 1) w1.heap.size wd X ((leastN N T D).take q) ((leastT N T D).take q) (.slice nva q nvc) (.slice tva q tvc) vs us R (.slice xa i xc) g4 c4 → X.cell? ⟨w1.heap.size, 0, none⟩ = some (.slice nva q nvc) ∧ X.cell? ⟨w1.heap.size, 1, none⟩ = some (.slice tva q tvc) ∧ X.cell? ⟨w.heap.size, 1, none⟩ = some (.slice (some ⟨gT, oT, none⟩) T.length tc) ∧ X.cell? ⟨gT, oT + f, none⟩ = some (.slice ut i dt) ∧ Below w1.heap.size wd X) := fun X g4 c4 h => by
                have hst := (h.grow.block w1.heap.size (by omega) (fun e => by have := (own_lt h.old.on _ e.symm).1; omega)).trans h.old.st
                have hlow : Below w1.heap.size wd X := ⟨h.grow.os, h.grow.tape, h.grow.output, h.grow.size, fun k hk => h.grow.block k (by omega) (fun e => by have := (own_lt h.old.on _ e.symm).1; omega)⟩
                exact ⟨by rw [Lib.cell_of_heap hst]; rfl, by rw [Lib.cell_of_heap hst]; rfl, kept_low hlow (kept HBd.out tb1) (by omega), kept_low hlow (kept HBd.out ct) (HGTL.out), hlow⟩
              have HOT : Hid (∀ X o g4 c4, Mid (w1.heap.size + 1) w1.heap.size wd X ((leastN N T D).take q) ((leastT N T D).take q) (.slice nva q nvc) (.slice tva q tvc) vs us R (.slice xa i xc) g4 c4 → (X.alloc o).ownsRow (w1.heap.size + 1) 31 1 (.slice tva q tvc) q us) := fun X o g4 c4 h => by have h2 := h.ot; rw [HLN.out.2] at h2; exact h2.alloc o
              have HONE2 : Hid (∀ a n c, ∀ u ∈ [Value.slice a n c], u.oneCell' = true) := by
                intro a n c u hu
                simp only [List.mem_cons, List.not_mem_nil, or_false] at hu
                subst hu; rfl
              have HFIN : Hid (∀ (X wE : World) (g4 c4 g5 c5 : Nat) (uv : Value), Mid (w1.heap.size + 1) w1.heap.size wd X ((leastN N T D).take q) ((leastT N T D).take q) (.slice nva q nvc) (.slice tva q tvc) vs us R (.slice xa i xc) g4 c4 → Rw X (w1.heap.size + 1) uv (T.getD f []) → wE.ownsRow (w1.heap.size + 1) 31 1 (.slice (some ⟨g5, 0, none⟩) (q + 1) c5) (q + 1) (us ++ [uv]) → X.grownBy wE (Value.slice tva q tvc).ownBlock → ((Value.slice tva q tvc).ownBlock = some g5 ∨ g5 = X.heap.size) →
                  RLst (w1.heap.size + 1) w1.heap.size ((wE.setCell ⟨w1.heap.size, 0, none⟩ (.slice (some ⟨g4, 0, none⟩) (q + 1) c4)).setCell ⟨w1.heap.size, 1, none⟩ (.slice (some ⟨g5, 0, none⟩) (q + 1) c5)) ((leastN N T D).take (q + 1)) ((leastT N T D).take (q + 1)) (.slice (some ⟨g4, 0, none⟩) (q + 1) c4) (.slice (some ⟨g5, 0, none⟩) (q + 1) c5) (vs ++ [.slice xa i xc]) (us ++ [uv]) ∧
                  Below w1.heap.size w1 ((wE.setCell ⟨w1.heap.size, 0, none⟩ (.slice (some ⟨g4, 0, none⟩) (q + 1) c4)).setCell ⟨w1.heap.size, 1, none⟩ (.slice (some ⟨g5, 0, none⟩) (q + 1) c5)) ∧
                  (wE.cell? ⟨w1.heap.size, 0, none⟩ = some (.slice nva q nvc) ∧ wE.frozen? ⟨w1.heap.size, 0, none⟩ = false ∧ (wE.setCell ⟨w1.heap.size, 0, none⟩ (.slice (some ⟨g4, 0, none⟩) (q + 1) c4)).cell? ⟨w1.heap.size, 1, none⟩ = some (.slice tva q tvc) ∧ (wE.setCell ⟨w1.heap.size, 0, none⟩ (.slice (some ⟨g4, 0, none⟩) (q + 1) c4)).frozen? ⟨w1.heap.size, 1, none⟩ = false ∧ wE.cell? ⟨w.heap.size, 1, none⟩ = some (.slice (some ⟨gT, oT, none⟩) T.length tc) ∧ wE.cell? ⟨gT, oT + f, none⟩ = some (.slice ut i dt))) := fun X wE g4 c4 g5 c5 uv hM hu h1 h2 h3 => by
                have hN1 : (leastN N T D).take (q + 1) = (leastN N T D).take q ++ [R] := by
                  have h : (leastN N T D)[q]? = some R := by rw [leastN, List.getElem?_map, HE2.out, HR.out]; rfl
                  obtain ⟨h1, h2⟩ := List.getElem?_eq_some_iff.1 h
                  rw [List.take_succ_eq_append_getElem h1, h2]
                have hT1 : (leastT N T D).take (q + 1) = (leastT N T D).take q ++ [T.getD f []] := by
                  have h : (leastT N T D)[q]? = some (T.getD f []) := by rw [leastT, List.getElem?_map, HE2.out]; rfl
                  obtain ⟨h1, h2⟩ := List.getElem?_eq_some_iff.1 h
                  rw [List.take_succ_eq_append_getElem h1, h2]
                have h := hM.done hu (by rw [HLN.out.2]; exact h1) h2 h3
                rw [HLN.out.1, HLN.out.2, ← hN1, ← hT1] at h
                have hst := hM.cells h2
                have hzX : wr.heap.size ≤ X.heap.size := by have := hM.grow.size; omega
                refine ⟨h.1, (HB.out.trans (HBX.out.mono HB.out.size)).trans ((HBd.out.mono (by omega)).trans h.2), ?_, ?_, ?_, ?_, ?_, ?_⟩
                · rw [Lib.cell_of_heap hst]; rfl
                · exact Lib.frozen_of_heap hst 0
                · exact cell_set_other _ _ _ _ _ _ (by omega) (by rw [Lib.cell_of_heap hst]; rfl)
                · have h2 : (wE.setCell ⟨w1.heap.size, 0, none⟩ (.slice (some ⟨g4, 0, none⟩) (q + 1) c4)).heap[w1.heap.size]? = some (.cells #[.slice (some ⟨g4, 0, none⟩) (q + 1) c4, .slice tva q tvc] 25 (0, 0)) := by simp [World.setCell, Array.getElem?_modify, hst]
                  exact Lib.frozen_of_heap h2 1
                · exact (h2.block _ (by have := hM.grow.size; omega) (fun e => by have := (own_lt hM.old.ot _ e.symm).1; omega) |> heap_cell 1).trans (HCEL.out X g4 c4 hM).2.2.1
                · exact (h2.block _ (by have := HGTL.out; have := hM.grow.size; omega) (fun e => by have := (own_lt hM.old.ot _ e.symm).1; have := HGTL.out; omega) |> heap_cell (oT + f)).trans (HCEL.out X g4 c4 hM).2.2.2.1
              have hfTi : (f : Int) < (T.length : Int) := by have := HG.out.tells; omega
              have HD0 : Hid (∀ p v, wr.cell? p = some v → wr.drew.cell? p = some v) := fun p v h => h
              have d0 := fun o => cell_alloc_keep wr.drew o _ _ (HD0.out _ _ l0)
              have d1 := fun o => cell_alloc_keep wr.drew o _ _ (HD0.out _ _ l1)
              have d2 := fun o => cell_alloc_keep wr.drew o _ _ (HD0.out _ _ tb1)
              have d3 := fun o => cell_alloc_keep wr.drew o _ _ (HD0.out _ _ ct)
              have e0 := fun o o' => cell_alloc_keep (wr.drew.alloc o) o' _ _ (d0 o)
              have e1 := fun o o' => cell_alloc_keep (wr.drew.alloc o) o' _ _ (d1 o)
              have e2 := fun o o' => cell_alloc_keep (wr.drew.alloc o) o' _ _ (d2 o)
              have e3 := fun o o' => cell_alloc_keep (wr.drew.alloc o) o' _ _ (d3 o)
              have HLOW2 : Hid (w1.heap.size ≤ wr.heap.size) := by show _ ≤ _; omega
              rw [hwd] at *
              have HA13 : Hid (∀ (X : World) (b g4 c4 : Nat), Mid (w1.heap.size + 1) w1.heap.size wr.drew X ((leastN N T D).take q) ((leastT N T D).take q) (.slice nva q nvc) (.slice tva q tvc) vs us R (.slice xa i xc) g4 c4 → X.heap[b]? = some (.cells #[] 3 (0, 0)) → w1.heap.size + 1 ≤ b → ∃ v' X', (Builtin.append_ #[31, 31] 31 #[.slice (some ⟨b, 0, none⟩) 0 0, .slice ut i dt]).run Tryd.prog X = .ok v' X' ∧ Rw X' (w1.heap.size + 1) v' (T.getD f []) ∧ X.grownBy X' (some b) ∧ ∃ a n c, v' = .slice a n c) := fun X b g4 c4 hM hb hq => app_row hb hq (by have h := HRL.out.2; omega) HRL.out.2 (ints_low (HIT.out.below (drewB wr)) HGT2.out (HCEL.out X g4 c4 hM).2.2.2.2)
              have HS1 : Hid (∀ (X : World) (j : Nat) (u : Value), X.cell? ⟨w.heap.size, 1, none⟩ = some (.slice (some ⟨gT, oT, none⟩) T.length tc) → (X.setCell ⟨w1.heap.size, j, none⟩ u).cell? ⟨w.heap.size, 1, none⟩ = some (.slice (some ⟨gT, oT, none⟩) T.length tc)) := fun X j u h => cell_set_block _ _ _ _ _ _ _ (by omega) h
              have HS2 : Hid (∀ (X : World) (j : Nat) (u : Value), X.cell? ⟨gT, oT + f, none⟩ = some (.slice ut i dt) → (X.setCell ⟨w1.heap.size, j, none⟩ u).cell? ⟨gT, oT + f, none⟩ = some (.slice ut i dt)) := fun X j u h => cell_set_block _ _ _ _ _ _ _ (by have := HGTL.out; omega) h
              go_wp2_with fail
              refine wp_region_noPanic ?_
              refine wp_region_any (by kernel_rfl) ?_
              refine AnyU.any (st := 17) (S := fun W => W.cell? ⟨w1.heap.size, 0, none⟩ = some (.slice nva q nvc) ∧ W.cell? ⟨w1.heap.size, 1, none⟩ = some (.slice tva q tvc) ∧ W.cell? ⟨w.heap.size, 1, none⟩ = some (.slice (some ⟨gT, oT, none⟩) T.length tc) ∧ W.cell? ⟨gT, oT + f, none⟩ = some (.slice ut i dt)) _ _ _ wr.drew ?_
              have hSd : (fun W => W.cell? ⟨w1.heap.size, 0, none⟩ = some (.slice nva q nvc) ∧ W.cell? ⟨w1.heap.size, 1, none⟩ = some (.slice tva q tvc) ∧ W.cell? ⟨w.heap.size, 1, none⟩ = some (.slice (some ⟨gT, oT, none⟩) T.length tc) ∧ W.cell? ⟨gT, oT + f, none⟩ = some (.slice ut i dt)) wr.drew := ⟨HD0.out _ _ l0, HD0.out _ _ l1, HD0.out _ _ tb1, HD0.out _ _ ct⟩
              refine takeU 0 51 (.pointer (some ⟨w1.heap.size, 0, none⟩)) rfl rfl (by kernel_rfl) (by kernel_rfl) (by kernel_rfl) (fun _ _ _ h => h) (by decide) (by kernel_rfl) (waits rfl (by kernel_rfl)) hSd (Or.inl ⟨by rfl, ?_⟩) ?_
              · rintro Z ⟨z0, z1, z2, z3⟩
                go_simp
              simp only [List.setIfInBounds_toArray, List.set_cons_zero, List.set_cons_succ]
              refine takeU 1 52 (.slice nva q nvc) rfl rfl (by kernel_rfl) (by kernel_rfl) (by kernel_rfl) (fun _ _ _ h => h) (by decide) (by kernel_rfl) (waits rfl (by kernel_rfl)) hSd (Or.inl ⟨by rfl, ?_⟩) ?_
              · rintro Z ⟨z0, z1, z2, z3⟩
                go_simp
              simp only [List.setIfInBounds_toArray, List.set_cons_zero, List.set_cons_succ]
              refine takeU 2 53 (.slice xa i xc) rfl rfl (by kernel_rfl) (by kernel_rfl) (by kernel_rfl) (fun _ _ _ h => h) (by decide) (by kernel_rfl) (waits rfl (by kernel_rfl)) hSd (Or.inl ⟨by rfl, ?_⟩) ?_
              · rintro Z ⟨z0, z1, z2, z3⟩
                go_simp
              simp only [List.setIfInBounds_toArray, List.set_cons_zero, List.set_cons_succ]
              refine takeU 5 56 (.pointer (some ⟨w1.heap.size, 1, none⟩)) rfl rfl (by kernel_rfl) (by kernel_rfl) (by kernel_rfl) (fun _ _ _ h => h) (by decide) (by kernel_rfl) (waits rfl (by kernel_rfl)) hSd (Or.inl ⟨by rfl, ?_⟩) ?_
              · rintro Z ⟨z0, z1, z2, z3⟩
                go_simp
              simp only [List.setIfInBounds_toArray, List.set_cons_zero, List.set_cons_succ]
              refine takeU 6 57 (.slice tva q tvc) rfl rfl (by kernel_rfl) (by kernel_rfl) (by kernel_rfl) (fun _ _ _ h => h) (by decide) (by kernel_rfl) (waits rfl (by kernel_rfl)) hSd (Or.inl ⟨by rfl, ?_⟩) ?_
              · rintro Z ⟨z0, z1, z2, z3⟩
                go_simp
              simp only [List.setIfInBounds_toArray, List.set_cons_zero, List.set_cons_succ]
              refine takeU 8 59 (.pointer (some ⟨w.heap.size, 1, none⟩)) rfl rfl (by kernel_rfl) (by kernel_rfl) (by kernel_rfl) (fun _ _ _ h => h) (by decide) (by kernel_rfl) ((waits2 (k := 9) (waits2 (k := 11) (waits2 (k := 12) (waits2 (k := 13) (waits2 (k := 15) (waits (i := 15) rfl (by kernel_rfl)) rfl (by kernel_rfl)) rfl (by kernel_rfl)) rfl (by kernel_rfl)) rfl (by kernel_rfl)) rfl (by kernel_rfl))) hSd (Or.inl ⟨by rfl, ?_⟩) ?_
              · rintro Z ⟨z0, z1, z2, z3⟩
                go_simp
              simp only [List.setIfInBounds_toArray, List.set_cons_zero, List.set_cons_succ]
              refine takeU 9 60 (.slice (some ⟨gT, oT, none⟩) T.length tc) rfl rfl (by kernel_rfl) (by kernel_rfl) (by kernel_rfl) (fun _ _ _ h => h) (by decide) (by kernel_rfl) ((waits2 (k := 11) (waits2 (k := 12) (waits2 (k := 13) (waits2 (k := 15) (waits (i := 15) rfl (by kernel_rfl)) rfl (by kernel_rfl)) rfl (by kernel_rfl)) rfl (by kernel_rfl)) rfl (by kernel_rfl))) hSd (Or.inl ⟨by rfl, ?_⟩) ?_
              · rintro Z ⟨z0, z1, z2, z3⟩
                go_simp
              simp only [List.setIfInBounds_toArray, List.set_cons_zero, List.set_cons_succ]
              refine takeU 10 61 (.int .i64 (f : Int)) rfl rfl (by kernel_rfl) (by kernel_rfl) (by kernel_rfl) (fun _ _ _ h => h) (by decide) (by kernel_rfl) ((waits2 (k := 11) (waits2 (k := 12) (waits2 (k := 13) (waits2 (k := 15) (waits (i := 15) rfl (by kernel_rfl)) rfl (by kernel_rfl)) rfl (by kernel_rfl)) rfl (by kernel_rfl)) rfl (by kernel_rfl))) hSd (Or.inl ⟨by rfl, ?_⟩) ?_
              · rintro Z ⟨z0, z1, z2, z3⟩
                go_simp
              simp only [List.setIfInBounds_toArray, List.set_cons_zero, List.set_cons_succ]
              refine takeU 11 62 (.pointer (some ⟨gT, oT + f, none⟩)) rfl rfl (by kernel_rfl) (by kernel_rfl) (by kernel_rfl) (fun _ _ _ h => h) (by decide) (by kernel_rfl) ((waits2 (k := 12) (waits2 (k := 13) (waits2 (k := 15) (waits (i := 15) rfl (by kernel_rfl)) rfl (by kernel_rfl)) rfl (by kernel_rfl)) rfl (by kernel_rfl))) hSd (Or.inl ⟨by rfl, ?_⟩) ?_
              · rintro Z ⟨z0, z1, z2, z3⟩
                go_simp
              simp only [List.setIfInBounds_toArray, List.set_cons_zero, List.set_cons_succ]
              refine takeU 12 63 (.slice ut i dt) rfl rfl (by kernel_rfl) (by kernel_rfl) (by kernel_rfl) (fun _ _ _ h => h) (by decide) (by kernel_rfl) ((waits2 (k := 13) (waits2 (k := 15) (waits (i := 15) rfl (by kernel_rfl)) rfl (by kernel_rfl)) rfl (by kernel_rfl))) hSd (Or.inl ⟨by rfl, ?_⟩) ?_
              · rintro Z ⟨z0, z1, z2, z3⟩
                go_simp
              simp only [List.setIfInBounds_toArray, List.set_cons_zero, List.set_cons_succ]
              refine readyU (rs := [3, 7]) (by kernel_rfl) (by simp) ?_
              intro jj hmem
              rcases List.mem_cons.1 hmem with rfl | hmem
              · refine wpOp_k rfl (by rfl) (fun K' hK => ?_)
                go_simp
                refine hK _ _ ?_
                clear hK K' hmem
                rw [if_neg (by decide)]
                refine ⟨⟨d0 _, d1 _, d2 _, d3 _⟩, ?_⟩
                refine readyU (rs := [4, 7]) (by kernel_rfl) (by simp) ?_
                intro jj hmem
                rcases List.mem_cons.1 hmem with rfl | hmem
                · refine wpOp_k rfl (by rfl) (fun K' hK => ?_)
                  refine wp_append_lies _ (.tmp 52) (.tmp 54) 22 rfl (w1.heap.size + 1) 31 i3 _ 1 24 Tryd.underlying22 hi3 hz3 hz4 hz5 rfl (by decide) (.slice nva q nvc) q vs rfl (HOWN.out _ ((Below.refl _ _).alloc (Nat.le_refl _) _)) ⟨wr.heap.size, 0, none⟩ 1 1 [.slice xa i xc] rfl rfl (World.news_of_block (heap_alloc_new wr.drew _)) (HONE.out) (by decide) (by unfold maxLen; omega) (by omega) (by simp; omega) (wr.heap.size + 1) (by simp) ?_
                  intro g4 c4 wC hown hgrow hat hltg
                  refine hK _ _ ?_
                  clear hK K'
                  rw [if_neg (by decide)]
                  have HM4 := hide (HA4.out _ wC g4 c4 ((Below.refl _ _).alloc (Nat.le_refl _) _) hown hgrow (by simpa using hat) hltg)
                  obtain ⟨m0, m1, m2, m3, mlow⟩ := HCEL.out wC g4 c4 HM4.out
                  refine ⟨⟨m0, m1, m2, m3⟩, ?_⟩
                  clear hown hgrow hat hmem
                  simp only [Act.put, List.setIfInBounds_toArray]
                  refine takeU 16 67 (.pointer (some ⟨w1.heap.size, 0, none⟩)) rfl rfl (by kernel_rfl) (by kernel_rfl) (by kernel_rfl) (fun _ _ _ h => h) (by decide) (by kernel_rfl) (waits rfl (by kernel_rfl)) ⟨m0, m1, m2, m3⟩ (Or.inl ⟨by rfl, ?_⟩) ?_
                  · rintro Z ⟨z0, z1, z2, z3⟩
                    go_simp
                  simp only [List.setIfInBounds_toArray, List.set_cons_zero, List.set_cons_succ]
                  refine readyU (rs := [7]) (by kernel_rfl) (by simp) ?_
                  intro jj hmem
                  obtain rfl := List.mem_singleton.1 hmem
                  refine wpOp_k rfl (by rfl) (fun K' hK => ?_)
                  go_simp
                  refine hK _ _ ?_
                  clear hK K'
                  rw [if_neg (by decide)]
                  have hzC : wr.heap.size ≤ wC.heap.size := HM4.out.grow.size
                  refine ⟨⟨cell_alloc_keep _ _ _ _ m0, cell_alloc_keep _ _ _ _ m1, cell_alloc_keep _ _ _ _ m2, cell_alloc_keep _ _ _ _ m3⟩, ?_⟩
                  have HB7 : Hid ((wC.alloc (.cells #[] 3)).heap[wC.heap.size]? = some (.cells #[] 3 (0, 0))) := heap_alloc_new wC _
                  have HMX := hide (HM4.out.alloc (.cells #[] 3))
                  obtain ⟨b7, hb7⟩ : ∃ b, b = wC.heap.size := ⟨_, rfl⟩
                  obtain ⟨X, hX⟩ : ∃ X, X = wC.alloc (.cells #[] 3) := ⟨_, rfl⟩
                  obtain ⟨v54, hv54⟩ : ∃ v, v = Value.slice (some ⟨wr.heap.size, 0, none⟩) 1 1 := ⟨_, rfl⟩
                  have hq7 : wr.heap.size ≤ b7 := by omega
                  rw [← hX, ← hb7] at HB7
                  rw [← hX] at HMX
                  rw [← hX, ← hb7, ← hv54]
                  clear hX hb7 hv54 HM4 m0 m1 m2 m3 mlow hzC
                  obtain ⟨v13, wD, hrun, hrw, hgr, ⟨a13, n13, c13, hv13⟩⟩ := HA13.out X b7 g4 c4 HMX.out HB7.out (by omega)
                  subst hv13
                  refine readyU (rs := [13]) (by kernel_rfl) (by simp) ?_
                  intro jj hmem
                  obtain rfl := List.mem_singleton.1 hmem
                  clear hmem
                  refine wpOp_k rfl (by rfl) (fun K' hK => ?_)
                  refine Lib.wp_append_run _ (.tmp 58) (.tmp 63) 31 31 rfl (.slice (some ⟨b7, 0, none⟩) 0 0) (.slice ut i dt) rfl rfl (.slice a13 n13 c13) wD hrun ?_
                  refine hK _ _ ?_
                  clear hK K' hrun
                  rw [if_neg (by decide)]
                  have HM13 := hide (Mid.app HMX.out b7 (by simp; omega) _ HB7.out wD hgr)
                  have HU := hide hrw
                  obtain ⟨p0, p1, p2, p3, plow⟩ := HCEL.out wD g4 c4 HM13.out
                  have hzD : wr.heap.size ≤ wD.heap.size := HM13.out.grow.size
                  clear hrw hgr plow HMX HB7
                  refine ⟨⟨p0, p1, p2, p3⟩, ?_⟩
                  simp only [Act.put, List.setIfInBounds_toArray]
                  refine readyU (rs := [14]) (by kernel_rfl) (by simp) ?_
                  intro jj hmem
                  obtain rfl := List.mem_singleton.1 hmem
                  clear hmem
                  refine wpOp_k rfl (by rfl) (fun K' hK => ?_)
                  go_simp
                  refine hK _ _ ?_
                  clear hK K'
                  rw [if_neg (by decide)]
                  refine ⟨⟨cell_alloc_keep _ _ _ _ p0, cell_alloc_keep _ _ _ _ p1, cell_alloc_keep _ _ _ _ p2, cell_alloc_keep _ _ _ _ p3⟩, ?_⟩
                  refine readyU (rs := [15]) (by kernel_rfl) (by simp) ?_
                  intro jj hmem
                  obtain rfl := List.mem_singleton.1 hmem
                  clear hmem
                  refine wpOp_k rfl (by rfl) (fun K' hK => ?_)
                  refine wp_append_lies _ (.tmp 57) (.tmp 65) 22 rfl (w1.heap.size + 1) 31 i3 _ 1 24 Tryd.underlying22 hi3 hz3 hz4 hz5 rfl (by decide) (.slice tva q tvc) q us rfl (HOT.out _ _ _ _ HM13.out) ⟨wD.heap.size, 0, none⟩ 1 1 [.slice a13 n13 c13] rfl rfl (World.news_of_block (heap_alloc_new _ _)) (HONE2.out _ _ _) (by decide) (by unfold maxLen; omega) (by omega) (by simp; omega) (wD.heap.size + 1) (by simp) ?_
                  intro g15 c15 wE hown hgrow hat hltg
                  refine hK _ _ ?_
                  clear hK K'
                  rw [if_neg (by decide)]
                  have hst := (HM13.out.alloc _).cells hgrow
                  have k9 : wE.cell? ⟨w1.heap.size, 1, none⟩ = some (.slice tva q tvc) := by rw [Lib.cell_of_heap hst]; rfl
                  obtain ⟨k0, k1, k2⟩ := HFIN.out _ wE _ _ _ _ _ (HM13.out.alloc _) (own_below HU.out ((Below.refl _ _).alloc (Nat.le_refl _) _)) hown hgrow (by simpa using hat)
                  have HK0 := hide k0
                  have HK1 := hide k1
                  obtain ⟨k3, k4, k5, k6, k7, k8⟩ := k2
                  clear hown hgrow hat k0 k1 hst
                  refine ⟨⟨k3, k9, k7, k8⟩, ?_⟩
                  simp only [Act.put, List.setIfInBounds_toArray]
                  refine readyU (rs := [17]) (by kernel_rfl) (by simp) ?_
                  intro jj hmem
                  obtain rfl := List.mem_singleton.1 hmem
                  clear hmem
                  refine wpOp_k rfl (by rfl) (fun K' hK => ?_)
                  go_simp
                  refine hK _ _ ?_
                  clear hK K'
                  rw [if_pos rfl]
                  refine readyA (rs := [18]) (by kernel_rfl) (by simp) ?_
                  intro jj hmem
                  obtain rfl := List.mem_singleton.1 hmem
                  clear hmem
                  refine wpOp_k rfl (by rfl) (fun K' hK => ?_)
                  go_simp
                  refine hK _ _ ?_
                  clear hK K'
                  refine readyA (rs := [19]) (by kernel_rfl) (by simp) ?_
                  intro jj hmem
                  obtain rfl := List.mem_singleton.1 hmem
                  clear hmem
                  refine wpOp_k rfl (by rfl) (fun K' hK => ?_)
                  go_simp
                  refine hK _ _ ?_
                  clear hK K'
                  refine ⟨by kernel_rfl, NoPanic.normal ?_⟩
                  go_wp2_with fail
                  go_roundw
                  case rel => exact ⟨q + 1, by omega, by go_num, _, _, _, _, HK0.out, HK1.out⟩
                  case measure => simp [intOf]; omega
                · obtain rfl := List.mem_singleton.1 hmem
                  clear hmem
                  refine wpOp_k rfl (by rfl) (fun K' hK => ?_)
                  go_simp
                  refine hK _ _ ?_
                  clear hK K'
                  rw [if_neg (by decide)]
                  refine ⟨⟨e0 _ _, e1 _ _, e2 _ _, e3 _ _⟩, ?_⟩
                  refine readyU (rs := [4]) (by kernel_rfl) (by simp) ?_
                  intro jj hmem
                  obtain rfl := List.mem_singleton.1 hmem
                  refine wpOp_k rfl (by rfl) (fun K' hK => ?_)
                  refine wp_append_lies _ (.tmp 52) (.tmp 54) 22 rfl (w1.heap.size + 1) 31 i3 _ 1 24 Tryd.underlying22 hi3 hz3 hz4 hz5 rfl (by decide) (.slice nva q nvc) q vs rfl (HOWN.out _ (then_ (((Below.refl _ _).alloc (Nat.le_refl _) _)) (((Below.refl _ _).alloc (Nat.le_refl _) _)))) ⟨wr.heap.size, 0, none⟩ 1 1 [.slice xa i xc] rfl rfl (World.news_of_block ((Below.heap_alloc _ _ _ (by simp)).trans (heap_alloc_new wr.drew _))) (HONE.out) (by decide) (by unfold maxLen; omega) (by omega) (by simp; omega) (wr.heap.size + 1 + 1) (by simp) ?_
                  intro g4 c4 wC hown hgrow hat hltg
                  refine hK _ _ ?_
                  clear hK K'
                  rw [if_neg (by decide)]
                  have HM4 := hide (HA4.out _ wC g4 c4 (then_ (((Below.refl _ _).alloc (Nat.le_refl _) _)) (((Below.refl _ _).alloc (Nat.le_refl _) _))) hown hgrow (by simpa using hat) hltg)
                  obtain ⟨m0, m1, m2, m3, mlow⟩ := HCEL.out wC g4 c4 HM4.out
                  refine ⟨⟨m0, m1, m2, m3⟩, ?_⟩
                  have HB7 : Hid (wC.heap[wr.heap.size + 1]? = some (.cells #[] 3 (0, 0))) := keep_new hgrow HLd.out.nlt _ (by simp) (by simp) (heap_alloc_at _ _ _ (by simp))
                  clear hown hgrow hat hmem
                  simp only [Act.put, List.setIfInBounds_toArray]
                  refine takeU 16 67 (.pointer (some ⟨w1.heap.size, 0, none⟩)) rfl rfl (by kernel_rfl) (by kernel_rfl) (by kernel_rfl) (fun _ _ _ h => h) (by decide) (by kernel_rfl) (waits rfl (by kernel_rfl)) ⟨m0, m1, m2, m3⟩ (Or.inl ⟨by rfl, ?_⟩) ?_
                  · rintro Z ⟨z0, z1, z2, z3⟩
                    go_simp
                  simp only [List.setIfInBounds_toArray, List.set_cons_zero, List.set_cons_succ]
                  have HMX := HM4
                  obtain ⟨b7, hb7⟩ : ∃ b, b = wr.heap.size + 1 := ⟨_, rfl⟩
                  obtain ⟨X, hX⟩ : ∃ X, X = wC := ⟨_, rfl⟩
                  obtain ⟨v54, hv54⟩ : ∃ v, v = Value.slice (some ⟨wr.heap.size, 0, none⟩) 1 1 := ⟨_, rfl⟩
                  have hq7 : wr.heap.size ≤ b7 := by omega
                  rw [← hb7] at HB7
                  rw [← hX] at HMX HB7
                  rw [← hX, ← hb7, ← hv54]
                  clear hX hb7 hv54 HM4 m0 m1 m2 m3 mlow
                  obtain ⟨v13, wD, hrun, hrw, hgr, ⟨a13, n13, c13, hv13⟩⟩ := HA13.out X b7 g4 c4 HMX.out HB7.out (by omega)
                  subst hv13
                  refine readyU (rs := [13]) (by kernel_rfl) (by simp) ?_
                  intro jj hmem
                  obtain rfl := List.mem_singleton.1 hmem
                  clear hmem
                  refine wpOp_k rfl (by rfl) (fun K' hK => ?_)
                  refine Lib.wp_append_run _ (.tmp 58) (.tmp 63) 31 31 rfl (.slice (some ⟨b7, 0, none⟩) 0 0) (.slice ut i dt) rfl rfl (.slice a13 n13 c13) wD hrun ?_
                  refine hK _ _ ?_
                  clear hK K' hrun
                  rw [if_neg (by decide)]
                  have HM13 := hide (Mid.app HMX.out b7 (by simp; omega) _ HB7.out wD hgr)
                  have HU := hide hrw
                  obtain ⟨p0, p1, p2, p3, plow⟩ := HCEL.out wD g4 c4 HM13.out
                  have hzD : wr.heap.size ≤ wD.heap.size := HM13.out.grow.size
                  clear hrw hgr plow HMX HB7
                  refine ⟨⟨p0, p1, p2, p3⟩, ?_⟩
                  simp only [Act.put, List.setIfInBounds_toArray]
                  refine readyU (rs := [14]) (by kernel_rfl) (by simp) ?_
                  intro jj hmem
                  obtain rfl := List.mem_singleton.1 hmem
                  clear hmem
                  refine wpOp_k rfl (by rfl) (fun K' hK => ?_)
                  go_simp
                  refine hK _ _ ?_
                  clear hK K'
                  rw [if_neg (by decide)]
                  refine ⟨⟨cell_alloc_keep _ _ _ _ p0, cell_alloc_keep _ _ _ _ p1, cell_alloc_keep _ _ _ _ p2, cell_alloc_keep _ _ _ _ p3⟩, ?_⟩
                  refine readyU (rs := [15]) (by kernel_rfl) (by simp) ?_
                  intro jj hmem
                  obtain rfl := List.mem_singleton.1 hmem
                  clear hmem
                  refine wpOp_k rfl (by rfl) (fun K' hK => ?_)
                  refine wp_append_lies _ (.tmp 57) (.tmp 65) 22 rfl (w1.heap.size + 1) 31 i3 _ 1 24 Tryd.underlying22 hi3 hz3 hz4 hz5 rfl (by decide) (.slice tva q tvc) q us rfl (HOT.out _ _ _ _ HM13.out) ⟨wD.heap.size, 0, none⟩ 1 1 [.slice a13 n13 c13] rfl rfl (World.news_of_block (heap_alloc_new _ _)) (HONE2.out _ _ _) (by decide) (by unfold maxLen; omega) (by omega) (by simp; omega) (wD.heap.size + 1) (by simp) ?_
                  intro g15 c15 wE hown hgrow hat hltg
                  refine hK _ _ ?_
                  clear hK K'
                  rw [if_neg (by decide)]
                  have hst := (HM13.out.alloc _).cells hgrow
                  have k9 : wE.cell? ⟨w1.heap.size, 1, none⟩ = some (.slice tva q tvc) := by rw [Lib.cell_of_heap hst]; rfl
                  obtain ⟨k0, k1, k2⟩ := HFIN.out _ wE _ _ _ _ _ (HM13.out.alloc _) (own_below HU.out ((Below.refl _ _).alloc (Nat.le_refl _) _)) hown hgrow (by simpa using hat)
                  have HK0 := hide k0
                  have HK1 := hide k1
                  obtain ⟨k3, k4, k5, k6, k7, k8⟩ := k2
                  clear hown hgrow hat k0 k1 hst
                  refine ⟨⟨k3, k9, k7, k8⟩, ?_⟩
                  simp only [Act.put, List.setIfInBounds_toArray]
                  refine readyU (rs := [17]) (by kernel_rfl) (by simp) ?_
                  intro jj hmem
                  obtain rfl := List.mem_singleton.1 hmem
                  clear hmem
                  refine wpOp_k rfl (by rfl) (fun K' hK => ?_)
                  go_simp
                  refine hK _ _ ?_
                  clear hK K'
                  rw [if_pos rfl]
                  refine readyA (rs := [18]) (by kernel_rfl) (by simp) ?_
                  intro jj hmem
                  obtain rfl := List.mem_singleton.1 hmem
                  clear hmem
                  refine wpOp_k rfl (by rfl) (fun K' hK => ?_)
                  go_simp
                  refine hK _ _ ?_
                  clear hK K'
                  refine readyA (rs := [19]) (by kernel_rfl) (by simp) ?_
                  intro jj hmem
                  obtain rfl := List.mem_singleton.1 hmem
                  clear hmem
                  refine wpOp_k rfl (by rfl) (fun K' hK => ?_)
                  go_simp
                  refine hK _ _ ?_
                  clear hK K'
                  refine ⟨by kernel_rfl, NoPanic.normal ?_⟩
                  go_wp2_with fail
                  go_roundw
                  case rel => exact ⟨q + 1, by omega, by go_num, _, _, _, _, HK0.out, HK1.out⟩
                  case measure => simp [intOf]; omega
              · obtain rfl := List.mem_singleton.1 hmem
                clear hmem
                refine wpOp_k rfl (by rfl) (fun K' hK => ?_)
                go_simp
                refine hK _ _ ?_
                clear hK K'
                rw [if_neg (by decide)]
                refine ⟨⟨d0 _, d1 _, d2 _, d3 _⟩, ?_⟩
                refine readyU (rs := [3]) (by kernel_rfl) (by simp) ?_
                intro jj hmem
                obtain rfl := List.mem_singleton.1 hmem
                refine wpOp_k rfl (by rfl) (fun K' hK => ?_)
                go_simp
                refine hK _ _ ?_
                clear hK K'
                rw [if_neg (by decide)]
                refine ⟨⟨e0 _ _, e1 _ _, e2 _ _, e3 _ _⟩, ?_⟩
                refine readyU (rs := [4]) (by kernel_rfl) (by simp) ?_
                intro jj hmem
                obtain rfl := List.mem_singleton.1 hmem
                refine wpOp_k rfl (by rfl) (fun K' hK => ?_)
                refine wp_append_lies _ (.tmp 52) (.tmp 54) 22 rfl (w1.heap.size + 1) 31 i3 _ 1 24 Tryd.underlying22 hi3 hz3 hz4 hz5 rfl (by decide) (.slice nva q nvc) q vs rfl (HOWN.out _ (then_ (((Below.refl _ _).alloc (Nat.le_refl _) _)) (((Below.refl _ _).alloc (Nat.le_refl _) _)))) ⟨wr.heap.size + 1, 0, none⟩ 1 1 [.slice xa i xc] rfl rfl (World.news_of_block (heap_alloc_at _ _ _ (by simp))) (HONE.out) (by decide) (by unfold maxLen; omega) (by omega) (by simp; omega) (wr.heap.size + 1 + 1) (by simp) ?_
                intro g4 c4 wC hown hgrow hat hltg
                refine hK _ _ ?_
                clear hK K'
                rw [if_neg (by decide)]
                have HM4 := hide (HA4.out _ wC g4 c4 (then_ (((Below.refl _ _).alloc (Nat.le_refl _) _)) (((Below.refl _ _).alloc (Nat.le_refl _) _))) hown hgrow (by simpa using hat) hltg)
                obtain ⟨m0, m1, m2, m3, mlow⟩ := HCEL.out wC g4 c4 HM4.out
                refine ⟨⟨m0, m1, m2, m3⟩, ?_⟩
                have HB7 : Hid (wC.heap[wr.heap.size]? = some (.cells #[] 3 (0, 0))) := keep_new hgrow HLd.out.nlt _ (by simp) (by simp; omega) ((Below.heap_alloc _ _ _ (by simp)).trans (heap_alloc_new wr.drew _))
                clear hown hgrow hat hmem
                simp only [Act.put, List.setIfInBounds_toArray]
                refine takeU 16 67 (.pointer (some ⟨w1.heap.size, 0, none⟩)) rfl rfl (by kernel_rfl) (by kernel_rfl) (by kernel_rfl) (fun _ _ _ h => h) (by decide) (by kernel_rfl) (waits rfl (by kernel_rfl)) ⟨m0, m1, m2, m3⟩ (Or.inl ⟨by rfl, ?_⟩) ?_
                · rintro Z ⟨z0, z1, z2, z3⟩
                  go_simp
                simp only [List.setIfInBounds_toArray, List.set_cons_zero, List.set_cons_succ]
                have HMX := HM4
                obtain ⟨b7, hb7⟩ : ∃ b, b = wr.heap.size := ⟨_, rfl⟩
                obtain ⟨X, hX⟩ : ∃ X, X = wC := ⟨_, rfl⟩
                obtain ⟨v54, hv54⟩ : ∃ v, v = Value.slice (some ⟨wr.heap.size + 1, 0, none⟩) 1 1 := ⟨_, rfl⟩
                have hq7 : wr.heap.size ≤ b7 := by omega
                rw [← hb7] at HB7
                rw [← hX] at HMX HB7
                rw [← hX, ← hv54, ← hb7]
                clear hX hb7 hv54 HM4 m0 m1 m2 m3 mlow
                obtain ⟨v13, wD, hrun, hrw, hgr, ⟨a13, n13, c13, hv13⟩⟩ := HA13.out X b7 g4 c4 HMX.out HB7.out (by omega)
                subst hv13
                refine readyU (rs := [13]) (by kernel_rfl) (by simp) ?_
                intro jj hmem
                obtain rfl := List.mem_singleton.1 hmem
                clear hmem
                refine wpOp_k rfl (by rfl) (fun K' hK => ?_)
                refine Lib.wp_append_run _ (.tmp 58) (.tmp 63) 31 31 rfl (.slice (some ⟨b7, 0, none⟩) 0 0) (.slice ut i dt) rfl rfl (.slice a13 n13 c13) wD hrun ?_
                refine hK _ _ ?_
                clear hK K' hrun
                rw [if_neg (by decide)]
                have HM13 := hide (Mid.app HMX.out b7 (by simp; omega) _ HB7.out wD hgr)
                have HU := hide hrw
                obtain ⟨p0, p1, p2, p3, plow⟩ := HCEL.out wD g4 c4 HM13.out
                have hzD : wr.heap.size ≤ wD.heap.size := HM13.out.grow.size
                clear hrw hgr plow HMX HB7
                refine ⟨⟨p0, p1, p2, p3⟩, ?_⟩
                simp only [Act.put, List.setIfInBounds_toArray]
                refine readyU (rs := [14]) (by kernel_rfl) (by simp) ?_
                intro jj hmem
                obtain rfl := List.mem_singleton.1 hmem
                clear hmem
                refine wpOp_k rfl (by rfl) (fun K' hK => ?_)
                go_simp
                refine hK _ _ ?_
                clear hK K'
                rw [if_neg (by decide)]
                refine ⟨⟨cell_alloc_keep _ _ _ _ p0, cell_alloc_keep _ _ _ _ p1, cell_alloc_keep _ _ _ _ p2, cell_alloc_keep _ _ _ _ p3⟩, ?_⟩
                refine readyU (rs := [15]) (by kernel_rfl) (by simp) ?_
                intro jj hmem
                obtain rfl := List.mem_singleton.1 hmem
                clear hmem
                refine wpOp_k rfl (by rfl) (fun K' hK => ?_)
                refine wp_append_lies _ (.tmp 57) (.tmp 65) 22 rfl (w1.heap.size + 1) 31 i3 _ 1 24 Tryd.underlying22 hi3 hz3 hz4 hz5 rfl (by decide) (.slice tva q tvc) q us rfl (HOT.out _ _ _ _ HM13.out) ⟨wD.heap.size, 0, none⟩ 1 1 [.slice a13 n13 c13] rfl rfl (World.news_of_block (heap_alloc_new _ _)) (HONE2.out _ _ _) (by decide) (by unfold maxLen; omega) (by omega) (by simp; omega) (wD.heap.size + 1) (by simp) ?_
                intro g15 c15 wE hown hgrow hat hltg
                refine hK _ _ ?_
                clear hK K'
                rw [if_neg (by decide)]
                have hst := (HM13.out.alloc _).cells hgrow
                have k9 : wE.cell? ⟨w1.heap.size, 1, none⟩ = some (.slice tva q tvc) := by rw [Lib.cell_of_heap hst]; rfl
                obtain ⟨k0, k1, k2⟩ := HFIN.out _ wE _ _ _ _ _ (HM13.out.alloc _) (own_below HU.out ((Below.refl _ _).alloc (Nat.le_refl _) _)) hown hgrow (by simpa using hat)
                have HK0 := hide k0
                have HK1 := hide k1
                obtain ⟨k3, k4, k5, k6, k7, k8⟩ := k2
                clear hown hgrow hat k0 k1 hst
                refine ⟨⟨k3, k9, k7, k8⟩, ?_⟩
                simp only [Act.put, List.setIfInBounds_toArray]
                refine readyU (rs := [17]) (by kernel_rfl) (by simp) ?_
                intro jj hmem
                obtain rfl := List.mem_singleton.1 hmem
                clear hmem
                refine wpOp_k rfl (by rfl) (fun K' hK => ?_)
                go_simp
                refine hK _ _ ?_
                clear hK K'
                rw [if_pos rfl]
                refine readyA (rs := [18]) (by kernel_rfl) (by simp) ?_
                intro jj hmem
                obtain rfl := List.mem_singleton.1 hmem
                clear hmem
                refine wpOp_k rfl (by rfl) (fun K' hK => ?_)
                go_simp
                refine hK _ _ ?_
                clear hK K'
                refine readyA (rs := [19]) (by kernel_rfl) (by simp) ?_
                intro jj hmem
                obtain rfl := List.mem_singleton.1 hmem
                clear hmem
                refine wpOp_k rfl (by rfl) (fun K' hK => ?_)
                go_simp
                refine hK _ _ ?_
                clear hK K'
                refine ⟨by kernel_rfl, NoPanic.normal ?_⟩
                go_wp2_with fail
                go_roundw
                case rel => exact ⟨q + 1, by omega, by go_num, _, _, _, _, HK0.out, HK1.out⟩
                case measure => simp [intOf]; omega
        · have HNN : Hid (∀ r, r < s + 1 → (gd N T D).1[r]? ≠ some j) := fun r hr => by
            by_cases e : r = s
            · subst e; rw [e1]; intro e5; exact hqj (Option.some.inj e5)
            · exact HNO.out r (by omega)
          have hqi : ¬ (q : Int) = (j : Int) := by omega
          have hqb : ((q : Int) != (j : Int)) = true := by simpa using hqi
          clear e1 e2 e3 e4
          go_wp2_with fail
          go_roundw
          case rel => exact ⟨s + 1, by omega, by go_num, HNN.out, trivial⟩
          case measure => simp [intOf]; omega
      · have hsN : s = N.length := by omega
        subst hsN
        have hjm : j = m := by
          rcases Nat.lt_or_ge j m with h | h
          · have hf := List.getElem?_eq_getElem (l := (gd N T D).2) (i := j) (by rw [← HM.out]; exact h)
            obtain ⟨h1, h2⟩ := HGI.out.lt j _ hf
            exact absurd h2 (HNO.out _ h1)
          · omega
        subst hjm
        have HROWS : Hid (∀ W, RLst (w1.heap.size + 1) w1.heap.size W ((leastN N T D).take j) ((leastT N T D).take j) (.slice nva j nvc) (.slice tva j tvc) vs us → Rows W (.slice nva j nvc) (leastN N T D) ∧ Rows W (.slice tva j tvc) (leastT N T D)) := fun W hL => by
          have h1 : (leastN N T D).take j = leastN N T D := List.take_of_length_le (by rw [leastN, List.length_map, ← HM.out]; omega)
          have h2 : (leastT N T D).take j = leastT N T D := List.take_of_length_le (by rw [leastT, List.length_map, ← HM.out]; omega)
          rw [h1, h2] at hL
          have hf : ∀ f, f ∈ (gd N T D).2 → f < N.length := HGI.out.mem_lt
          refine ⟨rows_own hL.on hL.rn (by rw [leastN, List.length_map, ← HM.out]; unfold maxLen; omega) (fun r hr => ?_), rows_own hL.ot hL.rt (by rw [leastT, List.length_map, ← HM.out]; unfold maxLen; omega) (fun r hr => ?_)⟩
          · obtain ⟨f, hf1, rfl⟩ := List.mem_map.1 hr
            obtain ⟨e1, _, _⟩ := HG.out.rows f (hf f hf1)
            refine ⟨by rw [List.length_map, e1]; unfold maxLen; omega, fun x hx => ?_⟩
            obtain ⟨y, _, rfl⟩ := List.mem_map.1 hx
            have hof : (gd N T D).1.getD y.toNat 0 ≤ 500 := of_small HGI.out hn5 _
            unfold ofI I64
            omega
          · obtain ⟨f, hf1, rfl⟩ := List.mem_map.1 hr
            obtain ⟨_, e2, _⟩ := HG.out.rows f (hf f hf1)
            have hfT : f < T.length := by rw [HG.out.tells]; exact hf f hf1
            refine ⟨by rw [e2]; unfold maxLen; omega, fun x hx => ?_⟩
            rw [getD_in _ _ _ hfT] at hx
            exact HT.out.small f hfT x hx
        have HFIN : Hid (∀ x_ y_, RLeastDone w N T (.returned (.agg #[.slice nva j nvc, .slice tva j tvc])) ((wr.setCell ⟨w.heap.size + 1, 0, none⟩ x_).setCell ⟨w.heap.size + 1, 1, none⟩ y_)) := fun x_ y_ => by
          obtain ⟨r1, r2⟩ := HROWS.out _ ((HL.out.low_set (w.heap.size + 1) 0 x_ (by omega)).low_set (w.heap.size + 1) 1 y_ (by omega))
          exact ⟨((then_ HBA.out (then_ HB1.out HB.out)).setCell (by show w.heap.size ≤ w.heap.size + 1; omega) _).setCell (by show w.heap.size ≤ w.heap.size + 1; omega) _, D, _, _, HST.out, rfl, r1, r2⟩
        obtain ⟨l0, l1, _, _⟩ := HL.out.cells
        have hst := (HB.out.block _ (by omega)).trans HRS1.out
        obtain ⟨z0, z1, z2, z3⟩ : wr.cell? ⟨w.heap.size + 1, 0, none⟩ = some (.slice none 0 0) ∧ wr.cell? ⟨w.heap.size + 1, 1, none⟩ = some (.slice none 0 0) ∧ wr.frozen? ⟨w.heap.size + 1, 0, none⟩ = false ∧ wr.frozen? ⟨w.heap.size + 1, 1, none⟩ = false :=
          ⟨by rw [Lib.cell_of_heap hst]; rfl, by rw [Lib.cell_of_heap hst]; rfl, Lib.frozen_of_heap hst 0, Lib.frozen_of_heap hst 1⟩
        clear hst HL HROWS
        go_wp2_with fail
        refine bodyPost_ret_by (v := .agg #[.slice nva j nvc, .slice tva j tvc]) ?_ rfl ?_
        · simp [results, Tryd.results10, go_sem, z0, z1]
        · exact HFIN.out _ _
end Bk
end Go.Proofs.YtdeijfkahhgojaaDoor
