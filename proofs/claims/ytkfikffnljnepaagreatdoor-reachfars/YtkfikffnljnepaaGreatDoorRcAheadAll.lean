/-
  The walk of the document's Paths. Rows of steps in memory; a machine's table, state by state. The walk of package reach's ahead: of each state those that lead to it.
-/
import Derived.Test.YtkfikffnljnepaaGreatDoorRfPathWAll
import Derived.Test.YtkfikffnljnepaaGreatDoorRfFarWAll
namespace Go.Proofs.YtkfikffnljnepaaGreatDoor
section
namespace Rf
open Go.RowKit Go.Deep
theorem own_row {W : World} {q n : Nat} {v : Value} {p : List Nat} (h : W.ownsRow q 3 1 v n (p.map intV)) (hn : 0 < n) (hp : p.length = n) : ∃ b c, v = .slice (some ⟨b, 0, none⟩) n c ∧ q ≤ b ∧ n ≤ c ∧ ∀ (k x : Nat), p[k]? = some x → W.cell? ⟨b, k, none⟩ = some (.int .i64 (x : Int)) := by
  rcases h.2 with ⟨_, h0⟩ | ⟨g, cap, cur, rfl, hg, hcur, hcap, _, _, htk⟩
  · omega
  · exact ⟨g, cap, rfl, hg, hcap, fun k x hx => row_cell hcur htk (by rw [List.getElem?_map, hx]; rfl)⟩
theorem outAt_new {W : World} {gO S : Nat} (h : RowIs W gO 26 (List.replicate S (.slice none 0 0))) : OutAt W gO (List.replicate S (.slice none 0 0)) (List.replicate S none) := by
  refine ⟨h, by simp, fun t ht _ => ?_, fun t p hp => ?_⟩
  · rw [List.getElem?_replicate, if_pos (by simpa using ht)]
  · rw [List.getD_eq_getElem?_getD, List.getElem?_replicate] at hp
    split at hp <;> cases hp
set_option maxHeartbeats 16000000 in
set_option maxRecDepth 100000 in
theorem RPaths_any (bx S I : Nat) (nv rv nx : Value) (next : Nat → List Nat) (w : World) (h : RMachAt w bx nv rv S I nx) (hR : RowsI w nx ((List.range S).map fun s => asI (next s))) (hnl : ∀ s, (next s).length = I) (hnx : ∀ f s, f < S → s ∈ next f → s < S) (hS1 : 1 ≤ S) (hS : S ≤ 4096) (hI : I ≤ 64) :
    Calls Tryz.prog 11 #[.pointer (some ⟨bx, 0, none⟩)] w (PathsD w S next) := by
  have HM := hide h
  have HR0 := hide hR
  obtain ⟨xa, xc, hx⟩ := hR.slice
  have hln : ((List.range S).map fun s => asI (next s)).length = S := by simp
  rw [hln] at hx
  subst hx
  have HR := hide hR
  have HNL := hide hnl
  have HNX := hide hnx
  have mk := fun W => makeIss S (by omega) W
  obtain ⟨cS, hcS⟩ : ∃ c, c = List.replicate S (Value.slice none 0 0) := ⟨_, rfl⟩
  rw [← hcS] at mk
  have HCS := hide hcS
  obtain ⟨w1, hw1⟩ : ∃ w1, w1 = w.alloc (.cells ⟨cS⟩ 26) := ⟨_, rfl⟩
  have HR1 : Hid (RowIs w1 w.heap.size 26 cS) := by show RowIs _ _ _ _; rw [hw1]; exact RowIs.new _ _ _
  have hb1 : Below w.heap.size w w1 := by rw [hw1]; exact (Below.refl _ _).alloc (Nat.le_refl _) _
  have HB1 := hide hb1
  have HS1W : Hid (w1.heap.size = w.heap.size + 1) := by show _ = _; rw [hw1]; simp
  obtain ⟨_, ⟨c2, _⟩, _⟩ := h.cells
  have HFA := hide (RFar_any bx S I _ _ _ next w1 (h.below hb1) (hR.below hb1) hnl hnx hS1 hS hI)
  rw [hw1] at HFA
  have HW1 := hide hw1
  have HPS := hide (PInv.start next S hS1 hnx)
  have HDW := hide (dist_walk next S hS1 hnx)
  have hSi : (0 : Int) < (S : Int) := by omega
  have en0 := eqNilN_none
  have en1 := eqNilN_some
  clear h hR hnl hnx hln hcS hw1 hb1
  go_enter Tryz.func11, Tryz.ntmps11
  go_wp2_with fail
  refine HFA.out.mono ?_
  rintro e w2 ⟨g2, dl, rfl, hdr, hdl, hds, hg2, hb2⟩
  rw [← HW1.out] at hg2 hb2
  have HFAR : Hid (∀ s (hs : s < dl.length), dl[s] = ((Rc.walk next S).at_ s).far) := fun s hs => by
    have h1 : dl.getD s 0 = ((Rc.walk next S).at_ s).far := hds.same HDW.out s (by omega)
    rw [← h1]
    simp [hs]
  have HDL : Hid (dl.length = S) := hdl
  have HDR2 := hide hdr
  have hgO : w.heap.size < g2 := by have := HS1W.out; omega
  have HB2 : Hid (Below w.heap.size w w2) := HB1.out.trans (hb2.mono HB1.out.size)
  have HRO2 := hide (HR1.out.below hb2)
  have hz2 : w.heap.size < w2.heap.size := by have := hb2.size; have := HS1W.out; omega
  have hcl : cS[0]? = some (.slice none 0 0) := by rw [HCS.out, List.getElem?_replicate, if_pos (by omega)]
  have d0 := HRO2.out.cell 0 _ hcl
  have f0 := HRO2.out.frozen 0
  have HOA0 : Hid (OutAt ((w2.setCell ⟨w.heap.size, 0, none⟩ (.slice (some ⟨w2.heap.size, 0, none⟩) 0 0)).alloc (.cells #[] 3)) w.heap.size (cS.set 0 (.slice (some ⟨w2.heap.size, 0, none⟩) 0 0)) ((List.replicate S none).set 0 (some []))) := by
    have h1 : OutAt w2 w.heap.size cS (List.replicate S none) := by rw [HCS.out]; exact outAt_new (by rw [← HCS.out]; exact HRO2.out)
    have h2 := h1.put 0 (by simp; omega) [] w2.heap.size 0 hz2 (Nat.le_refl _) (fun k x hx => by simp at hx)
    exact h2.below ((Below.refl _ _).alloc (Nat.le_refl _) _)
  have HDR3 : Hid (RowIs ((w2.setCell ⟨w.heap.size, 0, none⟩ (.slice (some ⟨w2.heap.size, 0, none⟩) 0 0)).alloc (.cells #[] 3)) g2 3 (dl.map iV)) := (RowIs.other HDR2.out w.heap.size 0 _ (by omega)).below ((Below.refl _ _).alloc (Nat.le_refl _) _)
  have HB3 : Hid (Below w.heap.size w ((w2.setCell ⟨w.heap.size, 0, none⟩ (.slice (some ⟨w2.heap.size, 0, none⟩) 0 0)).alloc (.cells #[] 3))) := (HB2.out.setCell (p := ⟨w.heap.size, 0, none⟩) (Nat.le_refl _) _).alloc (by have := HB2.out.size; simpa [World.setCell] using this) _
  clear hdr hdl hds hg2 hb2 HFA hcl
  go_wp2_with fail
  clear d0 f0
  generalize (w2.setCell ⟨w.heap.size, 0, none⟩ (.slice (some ⟨w2.heap.size, 0, none⟩) 0 0)).alloc (.cells #[] 3) = w3 at *
  go_loopw [5] (fun dv wr => ∃ (d : Nat) (us : List Value) (out : List (Option (List Nat))), d ≤ S ∧ dv = .int .i64 (d : Int) ∧ Hid (PInv next S out d 0 0) ∧ Hid (OutAt wr w.heap.size us out) ∧ Hid (RowIs wr g2 3 (dl.map iV)) ∧ Hid (Below w.heap.size w wr)) (fun dv _ => S - (intOf dv).toNat)
  case atStart => exact ⟨0, _, _, Nat.zero_le _, rfl, HPS.out, HOA0.out, HDR3.out, HB3.out⟩
  case round =>
    obtain ⟨d, us, out, hd, rfl, HPI, HOA, HDR, HB⟩ := hrel
    obtain ⟨wo, hwo⟩ : ∃ wo, wo = wr := ⟨_, rfl⟩
    subst hwo
    obtain ⟨_, ⟨e2, _⟩, _⟩ := (HM.out.below HB.out).cells
    by_cases hdS : d < S
    · have hdi : (d : Int) < (S : Int) := by omega
      go_wp2_with fail
      clear e2
      go_loopw [32] (fun i wr => ∃ (s : Nat) (us : List Value) (out : List (Option (List Nat))), s ≤ S ∧ i = .int .i64 (s : Int) ∧ Hid (PInv next S out d s 0) ∧ Hid (OutAt wr w.heap.size us out) ∧ Hid (RowIs wr g2 3 (dl.map iV)) ∧ Hid (Below w.heap.size w wr)) (fun i _ => S - (intOf i).toNat)
      case atStart => exact ⟨0, us, out, Nat.zero_le _, rfl, HPI.out, HOA.out, HDR.out, HB.out⟩
      case round =>
        obtain ⟨s, us, out, hs, rfl, HPI, HOA, HDR, HB⟩ := hrel
        by_cases hlt : s < S
        · have hsi : (s : Int) < (S : Int) := by omega
          have hsd : s < dl.length := by rw [HDL.out]; exact hlt
          have cd : wr.cell? ⟨g2, s, none⟩ = some (.int .i64 dl[s]) := HDR.out.cell s _ (by rw [List.getElem?_map, List.getElem?_eq_getElem hsd]; rfl)
          have HFS : Hid (dl[s] = ((Rc.walk next S).at_ s).far) := HFAR.out s hsd
          generalize dl[s] = xs at *
          by_cases hxd : xs = (d : Int)
          · subst hxd
            have hrs : ((List.range S).map fun s => asI (next s))[s]? = some (asI (next s)) := by simp [hlt]
            obtain ⟨gR, u, hxa, hxc, cR, iR⟩ := HR.out.at_ s _ hrs
            subst hxa
            have cRr := (HB.out.cell (World.block_lt_of_cell? _ _ cR)).trans cR
            obtain ⟨ua, uc, rfl⟩ := iR.slice
            have hlen : (asI (next s)).length = I := by unfold asI; rw [List.length_map]; exact HNL.out s
            rw [hlen] at iR cRr
            have HIR := hide iR
            obtain ⟨_, _, c4⟩ := (HM.out.below HB.out).cells
            clear hrs iR hlen cR
            go_wp2_with fail
            clear c4 cRr cd
            go_loopw [49] (fun i wr => ∃ (k : Nat) (us : List Value) (out : List (Option (List Nat))), k ≤ I ∧ i = .int .i64 (k : Int) ∧ Hid (PInv next S out d s k) ∧ Hid (OutAt wr w.heap.size us out) ∧ Hid (RowIs wr g2 3 (dl.map iV)) ∧ Hid (Below w.heap.size w wr)) (fun i _ => I - (intOf i).toNat)
            case atStart => exact ⟨0, us, out, Nat.zero_le _, rfl, HPI.out, HOA.out, HDR.out, HB.out⟩
            case round =>
              obtain ⟨k, us, out, hk, rfl, HPI, HOA, HDR, HB⟩ := hrel
              obtain ⟨wq, hwq⟩ : ∃ wq, wq = wr := ⟨_, rfl⟩
              subst hwq
              by_cases hlt2 : k < I
              · have hki : (k : Int) < (I : Int) := by omega
                have hkl : k < (next s).length := by rw [HNL.out]; exact hlt2
                obtain ⟨gu, ou, hua, cu⟩ := (HIR.out.below HB.out).cell k _ (asI_at (next s) k hkl)
                subst hua
                have htS : (next s)[k] < S := HNX.out s _ hlt (List.getElem_mem hkl)
                have HTE : Hid ((next s)[k]? = some (next s)[k]) := List.getElem?_eq_getElem hkl
                have htd : (next s)[k] < dl.length := by rw [HDL.out]; exact htS
                have HFT : Hid (dl[(next s)[k]] = ((Rc.walk next S).at_ (next s)[k]).far) := HFAR.out _ htd
                have HCT : Hid (∀ W, Below wq.heap.size wq W → W.cell? ⟨g2, (next s)[k], none⟩ = some (.int .i64 dl[(next s)[k]])) := fun W hW => (HDR.out.below hW).cell _ _ (by rw [List.getElem?_map, List.getElem?_eq_getElem htd]; rfl)
                generalize dl[(next s)[k]] = x at *
                generalize (next s)[k] = t at *
                have hti : (t : Int) < (S : Int) := by omega
                have HOL : Hid (t < out.length ∧ us.length = out.length) := ⟨by rw [HPI.out.len]; exact htS, HOA.out.len⟩
                obtain ⟨p0, hp0⟩ : ∃ p0, p0 = Rc.pathOf (Rc.walk next S) d s := ⟨_, rfl⟩
                have hp0l : p0.length = d := by rw [hp0]; exact Rc.pathOf_len _ _ _
                have hno := HPI.out.near s hlt d HFS.out.symm (Nat.le_refl _)
                rw [← hp0] at hno
                obtain ⟨a0, c0, hus, ha0, hc0, hcells⟩ := HOA.out.yes s p0 hno
                have cO := HOA.out.row.cell s _ hus
                rw [hp0l] at cO
                have hbA : Below wq.heap.size wq (wq.alloc (.cells #[] 3)) := (Below.refl _ _).alloc (Nat.le_refl _) _
                obtain ⟨v1, W2, hrun1, hown1, hgr1⟩ := app_ints (W := wq.alloc (.cells #[] 3)) wq.heap.size 26 (.slice (some ⟨wq.heap.size, 0, none⟩) 0 0) [] p0 (own_zero wq wq.heap.size 3 1 (Nat.le_refl _)) a0 c0 (fun k x hx => (hbA.cell (World.block_lt_of_cell? _ _ (hcells k x hx).2)).trans (hcells k x hx).2) (by simp) (by simp) (by omega)
                have hb12 : Below wq.heap.size wq W2 := hbA.grown hgr1 (by simp) (fun j e => by simp only [Value.ownBlock, Option.some.injEq] at e; omega)
                have hz12 := hb12.size
                have hbC : Below W2.heap.size W2 (W2.alloc (.cells #[.int .i64 (k : Int)] 3)) := (Below.refl _ _).alloc (Nat.le_refl _) _
                obtain ⟨v2, W4, hrun2, hown2, hgr2⟩ := app_ints (W := W2.alloc (.cells #[.int .i64 (k : Int)] 3)) wq.heap.size 26 v1 ([] ++ p0) [k] (by have h1 := hown1.alloc (.cells #[.int .i64 (k : Int)] 3); rw [List.length_append]; exact h1) W2.heap.size 1 (fun j x hx => by
                  cases j with
                  | succ j => simp at hx
                  | zero =>
                    simp only [List.getElem?_cons_zero, Option.some.injEq] at hx
                    subst hx
                    rw [Lib.cell_of_heap (heap_alloc_new _ _)]
                    rfl) (by simp; omega) (by simp; omega) (by simp)
                have hb14 : Below wq.heap.size wq W4 := (then_ hb12 hbC).grown hgr2 (by simp; omega) (fun j e => (hown1.lt j e).1)
                rw [List.nil_append] at hown2
                have hl4 : (p0 ++ [k]).length = d + 1 := by rw [List.length_append, hp0l]; rfl
                obtain ⟨b, cb, hv2, hbq, hcb, hcells2⟩ := own_row hown2 (by simp) (by simp)
                rw [show p0.length + [k].length = d + 1 by simp [hp0l]] at hv2 hcb
                subst hv2
                have HP4 : Hid (∀ (j y : Nat), (p0 ++ [k])[j]? = some y → y ≤ 64 ∧ W4.cell? ⟨b, j, none⟩ = some (.int .i64 (y : Int))) := fun j y hy => by
                  refine ⟨?_, hcells2 j y hy⟩
                  by_cases hj : j < p0.length
                  · rw [List.getElem?_append_left hj] at hy
                    exact (hcells j y hy).1
                  · rw [List.getElem?_append_right (by omega)] at hy
                    have : j - p0.length < 1 := by have := (List.getElem?_eq_some_iff.1 hy).1; simpa using this
                    obtain h0 : j - p0.length = 0 := by omega
                    rw [h0] at hy
                    simp only [List.getElem?_cons_zero, Option.some.injEq] at hy
                    omega
                simp only [hp0l] at hrun1
                simp only [List.length_cons, List.length_nil] at hrun2
                have HAPP1 := hide hrun1
                have HAPP2 := hide hrun2
                have HB14 := hide hb14
                have HOA4 := hide (HOA.out.below hb14)
                have HDR4 := hide (HDR.out.below hb14)
                have HBW4 : Hid (Below w.heap.size w W4) := HB.out.trans (hb14.mono HB.out.size)
                have cx := HCT.out W4 hb14
                have HL4 := hide hl4
                have HCB : Hid (d + 1 ≤ cb ∧ w.heap.size < b) := ⟨hcb, by have := HB.out.size; have := HOA.out.row.lt; omega⟩
                have HPE : Hid (p0 ++ [k] = Rc.pathOf (Rc.walk next S) d s ++ [k]) := by show _ = _; rw [hp0]
                have HFSD := hide HFS.out.symm
                have hwz : w.heap.size < wq.heap.size := HOA.out.row.lt
                clear hno hus hcells hbA hown1 hgr1 hb12 hbC hown2 hgr2 hb14 hcells2 hrun1 hrun2 hl4 hcb hp0 HCT htd hkl
                by_cases hft : x = (d : Int) + 1
                · have HFT1 : Hid (((Rc.walk next S).at_ t).far = (d : Int) + 1) := HFT.out.symm.trans hft
                  have hxb : (x == (d : Int) + 1) = true := by simpa using hft
                  cases hot : out.getD t none with
                  | none =>
                    have hut := HOA4.out.no t HOL.out.1 hot
                    have ct := HOA4.out.row.cell t _ hut
                    have ft := HOA4.out.row.frozen t
                    have HPN := hide (HPI.out.put hlt HFSD.out htS HTE.out HFT1.out (.inl hot))
                    rw [← HPE.out] at HPN
                    have hoa5 := HOA4.out.put t HOL.out.1 (p0 ++ [k]) b cb HCB.out.2 (by rw [HL4.out]; exact HCB.out.1) HP4.out
                    rw [HL4.out] at hoa5
                    have HOA5 := hide hoa5
                    have HDR5 : Hid (RowIs (W4.setCell ⟨w.heap.size, t, none⟩ (.slice (some ⟨b, 0, none⟩) (d + 1) cb)) g2 3 (dl.map iV)) := RowIs.other HDR4.out w.heap.size t _ (by omega)
                    have HB5 : Hid (Below w.heap.size w (W4.setCell ⟨w.heap.size, t, none⟩ (.slice (some ⟨b, 0, none⟩) (d + 1) cb))) := HBW4.out.setCell (p := ⟨w.heap.size, t, none⟩) (Nat.le_refl _) _
                    clear hot hut hoa5
                    go_wp2_with (at_builtin; first | (refine Lib.wpList_append_run _ rfl (.tmp 54) (.tmp 58) _ _ rfl _ _ rfl rfl _ _ HAPP1.out ?_) | (refine Lib.wpList_append_run _ rfl (.tmp 59) (.tmp 61) _ _ rfl _ _ rfl rfl _ _ HAPP2.out ?_))
                    go_roundw
                    case rel => exact ⟨k + 1, _, _, by omega, by go_num, HPN.out, HOA5.out, HDR5.out, HB5.out⟩
                    case measure => simp [intOf]; omega
                  | some q =>
                    obtain ⟨a5, c5, hu5, _, hc5, hcl5⟩ := HOA4.out.yes t q hot
                    have hql : q.length = d + 1 := by
                      rcases HPI.out.part t htS HFT1.out with ⟨h1, _⟩ | ⟨p', h1, h2, _⟩
                      · rw [hot] at h1; cases h1
                      · rw [hot] at h1; cases h1; exact h2.length
                    have ct := HOA4.out.row.cell t _ hu5
                    rw [hql] at ct
                    have hi1 : Ints W4 (.slice (some ⟨b, 0, none⟩) (d + 1) cb) (asI (p0 ++ [k])) := by have h := ints_row2 (by rw [HL4.out]; exact HCB.out.1) HP4.out; rw [HL4.out] at h; exact h
                    have hi2 : Ints W4 (.slice (some ⟨a5, 0, none⟩) (d + 1) c5) (asI q) := by have h := ints_row2 hc5 hcl5; rw [hql] at h; exact h
                    have HBF := hide (before_any (p0 ++ [k]) q _ _ W4 hi1 hi2 (by rw [HL4.out, hql]) (by rw [HL4.out]; omega))
                    have HOT := hide hot
                    have HTU : Hid (∃ y, us[t]? = some y) := ⟨_, hu5⟩
                    clear hi1 hi2 hu5 hc5 hcl5 hql hot
                    go_wp2_with (at_builtin; first | (refine Lib.wpList_append_run _ rfl (.tmp 54) (.tmp 58) _ _ rfl _ _ rfl rfl _ _ HAPP1.out ?_) | (refine Lib.wpList_append_run _ rfl (.tmp 59) (.tmp 61) _ _ rfl _ _ rfl rfl _ _ HAPP2.out ?_))
                    refine HBF.out.mono ?_
                    rintro e W5 ⟨rfl, hb5⟩
                    have HOA5 := hide (HOA4.out.below hb5)
                    have HDR5 := hide (HDR4.out.below hb5)
                    have HBW5 : Hid (Below w.heap.size w W5) := HBW4.out.trans (hb5.mono HBW4.out.size)
                    have HP5 : Hid (∀ (j y : Nat), (p0 ++ [k])[j]? = some y → y ≤ 64 ∧ W5.cell? ⟨b, j, none⟩ = some (.int .i64 (y : Int))) := fun j y hy => ⟨(HP4.out j y hy).1, (hb5.cell (World.block_lt_of_cell? _ _ (HP4.out j y hy).2)).trans (HP4.out j y hy).2⟩
                    clear hb5 HBF ct cx
                    cases hbf : Rc.bef (p0 ++ [k]) q with
                    | true =>
                      have HPN := hide (HPI.out.put hlt HFSD.out htS HTE.out HFT1.out (.inr ⟨q, HOT.out, by rw [← HPE.out]; exact hbf⟩))
                      rw [← HPE.out] at HPN
                      obtain ⟨y, hy⟩ := HTU.out
                      have ct5 := HOA5.out.row.cell t _ hy
                      have ft5 := HOA5.out.row.frozen t
                      have hoa6 := HOA5.out.put t HOL.out.1 (p0 ++ [k]) b cb HCB.out.2 (by rw [HL4.out]; exact HCB.out.1) HP5.out
                      rw [HL4.out] at hoa6
                      have HOA6 := hide hoa6
                      have HDR6 : Hid (RowIs (W5.setCell ⟨w.heap.size, t, none⟩ (.slice (some ⟨b, 0, none⟩) (d + 1) cb)) g2 3 (dl.map iV)) := RowIs.other HDR5.out w.heap.size t _ (by omega)
                      have HB6 : Hid (Below w.heap.size w (W5.setCell ⟨w.heap.size, t, none⟩ (.slice (some ⟨b, 0, none⟩) (d + 1) cb))) := HBW5.out.setCell (p := ⟨w.heap.size, t, none⟩) (Nat.le_refl _) _
                      clear hy hoa6 hbf
                      go_wp2_with fail
                      go_roundw
                      case rel => exact ⟨k + 1, _, _, by omega, by go_num, HPN.out, HOA6.out, HDR6.out, HB6.out⟩
                      case measure => simp [intOf]; omega
                    | false =>
                      have HPN := hide (HPI.out.keep HTE.out HOT.out (by rw [← HPE.out]; exact hbf))
                      clear hbf
                      go_wp2_with fail
                      go_roundw
                      case rel => exact ⟨k + 1, us, out, by omega, by go_num, HPN.out, HOA5.out, HDR5.out, HBW5.out⟩
                      case measure => simp [intOf]; omega
                · have hxb : (x == (d : Int) + 1) = false := by simpa using hft
                  have HPN := hide (HPI.out.pass HTE.out (fun e => hft (HFT.out.trans e)))
                  go_wp2_with (at_builtin; first | (refine Lib.wpList_append_run _ rfl (.tmp 54) (.tmp 58) _ _ rfl _ _ rfl rfl _ _ HAPP1.out ?_) | (refine Lib.wpList_append_run _ rfl (.tmp 59) (.tmp 61) _ _ rfl _ _ rfl rfl _ _ HAPP2.out ?_))
                  go_roundw
                  case rel => exact ⟨k + 1, us, out, by omega, by go_num, HPN.out, HOA4.out, HDR4.out, HBW4.out⟩
                  case measure => simp [intOf]; omega
              · obtain rfl : k = I := by omega
                have HPN := hide (HPI.out.next (fun _ => by rw [HNL.out]; exact Nat.le_refl _))
                have hki : ¬ (k : Int) < (k : Int) := by omega
                go_wp2_with fail
                go_roundw
                case rel => exact ⟨s + 1, us, out, by omega, by go_num, HPN.out, HOA.out, HDR.out, HB.out⟩
                case measure => simp [intOf]; omega
          · have HPN := hide (HPI.out.next (fun e => absurd (HFS.out.trans e) hxd))
            have hxb : (xs != (d : Int)) = true := by simpa using hxd
            go_wp2_with fail
            go_roundw
            case rel => exact ⟨s + 1, us, out, by omega, by go_num, HPN.out, HOA.out, HDR.out, HB.out⟩
            case measure => simp [intOf]; omega
        · obtain rfl : s = S := by omega
          have HPN := hide (HPI.out.deeper hS1 HNX.out)
          have hsi : ¬ (s : Int) < (s : Int) := by omega
          go_wp2_with fail
          go_roundw
          case rel => exact ⟨d + 1, us, out, by omega, by go_num, HPN.out, HOA.out, HDR.out, HB.out⟩
          case measure => simp [intOf]; omega
    · obtain rfl : d = S := by omega
      have hdi : ¬ (d : Int) < (d : Int) := by omega
      go_wp2_with fail
      go_ret
      exact ⟨w.heap.size, us, out, rfl, HOA.out, HPI.out, HB.out⟩
end Rf
end
section
open Go.RowKit
def stpCells (x : Rc.Stp) : List Value := [.int .i64 x.far, .int .i64 (x.frm : Int), .int .i64 (x.by_ : Int)]
theorem stp_len : ∀ (l : List Rc.Stp), (l.flatMap stpCells).length = l.length * 3
  | [] => rfl
  | x :: l => by rw [List.flatMap_cons, List.length_append, stp_len l, List.length_cons]; simp [stpCells]; omega
theorem stp_set1 (a : Int) : ∀ (l : List Rc.Stp) (i : Nat), i < l.length → (l.flatMap stpCells).set (i * 3) (.int .i64 a) = (l.set i ⟨a, (l.getD i Rc.st0).frm, (l.getD i Rc.st0).by_⟩).flatMap stpCells
  | [], i, h => by simp at h
  | x :: l, 0, _ => rfl
  | x :: l, i + 1, h => by
    have ih := stp_set1 a l i (by simpa using h)
    rw [List.flatMap_cons, show (i + 1) * 3 = i * 3 + 3 by omega]
    show (stpCells x ++ l.flatMap stpCells).set (i * 3 + (stpCells x).length) _ = _
    rw [List.set_append_right _ _ (by omega), Nat.add_sub_cancel, ih]
    rfl
theorem stp_set3 (y : Rc.Stp) : ∀ (l : List Rc.Stp) (i : Nat), i < l.length → (((l.flatMap stpCells).set (i * 3) (.int .i64 y.far)).set (i * 3 + 1) (.int .i64 (y.frm : Int))).set (i * 3 + 2) (.int .i64 (y.by_ : Int)) = (l.set i y).flatMap stpCells
  | [], i, h => by simp at h
  | x :: l, 0, _ => rfl
  | x :: l, i + 1, h => by
    have ih := stp_set3 y l i (by simpa using h)
    rw [List.flatMap_cons]
    have e0 : (i + 1) * 3 = (stpCells x).length + i * 3 := by simp [stpCells]; omega
    rw [e0, List.set_append_right _ _ (by omega), show (stpCells x).length + i * 3 - (stpCells x).length = i * 3 by omega,
      show (stpCells x).length + i * 3 + 1 = (stpCells x).length + (i * 3 + 1) by omega, List.set_append_right _ _ (by omega), show (stpCells x).length + (i * 3 + 1) - (stpCells x).length = i * 3 + 1 by omega,
      show (stpCells x).length + i * 3 + 2 = (stpCells x).length + (i * 3 + 2) by omega, List.set_append_right _ _ (by omega), show (stpCells x).length + (i * 3 + 2) - (stpCells x).length = i * 3 + 2 by omega, ih]
    rfl
theorem stp_cell {W : World} {g : Nat} {l : List Rc.Stp} (h : RowIs W g 66 (l.flatMap stpCells)) (k : Nat) (hk : k < l.length) : W.cell? ⟨g, k * 3, none⟩ = some (.int .i64 (l.getD k Rc.st0).far) ∧ W.cell? ⟨g, k * 3 + 1, none⟩ = some (.int .i64 ((l.getD k Rc.st0).frm : Int)) ∧ W.cell? ⟨g, k * 3 + 2, none⟩ = some (.int .i64 ((l.getD k Rc.st0).by_ : Int)) := by
  have e : l.getD k Rc.st0 = l[k] := by simp [hk]
  rw [e]
  exact ⟨h.cell _ _ (flat3 stpCells (fun _ => rfl) l k _ (List.getElem?_eq_getElem hk) 0 (by omega)), h.cell _ _ (flat3 stpCells (fun _ => rfl) l k _ (List.getElem?_eq_getElem hk) 1 (by omega)), h.cell _ _ (flat3 stpCells (fun _ => rfl) l k _ (List.getElem?_eq_getElem hk) 2 (by omega))⟩
theorem mcells_three (z : Value) (n : Nat) : madeCells #[z, z, z] (n * 3) = ⟨List.replicate (n * 3) z⟩ := by
  apply Array.ext'
  simp only [madeCells, Array.toList_map, Array.toList_range]
  apply List.ext_getElem
  · simp
  · intro i h1 h2
    have h3 : i % 3 = 0 ∨ i % 3 = 1 ∨ i % 3 = 2 := by omega
    rcases h3 with h3 | h3 | h3 <;> simp [h3]
theorem Tryz.infoStep : (Tryz.prog.info? 66).map (fun i => (i.zero, i.size, i.bytes)) = some (some (.agg #[.int .i64 0, .int .i64 0, .int .i64 0]), 3, 24) := by kernel_rfl
theorem stp_zero (n : Nat) : (List.replicate n Rc.st0).flatMap stpCells = List.replicate (n * 3) (.int .i64 0) := by
  induction n with
  | zero => rfl
  | succ n ih => rw [List.replicate_succ, List.flatMap_cons, ih, show (n + 1) * 3 = n * 3 + 1 + 1 + 1 by omega, List.replicate_succ, List.replicate_succ, List.replicate_succ]; rfl
theorem makeSteps (n : Nat) (hn : n ≤ 1000000) (w : World) : (Instr.makeSlice 63 (.int .i64 (n : Int)) (.int .i64 (n : Int))).run Tryz.prog w = .ok (.slice (some ⟨w.heap.size, 0, none⟩) n n) (w.alloc (.cells ⟨(List.replicate n Rc.st0).flatMap stpCells⟩ 66)) := by
  obtain ⟨i0, hi0, hz0, hz1, hz2⟩ := info_parts Tryz.infoStep
  have h := run_makeSlice (P := Tryz.prog) w 63 66 i0 _ Tryz.underlying63 hi0 hz0 .i64 .i64 n n (by omega) (Int.le_refl _) (by rw [hz1]; omega) (by rw [hz2]; omega) (by omega)
  have hc : (Value.agg #[.int .i64 0, .int .i64 0, .int .i64 0]).cells = #[.int .i64 0, .int .i64 0, .int .i64 0] := rfl
  rw [hz1, show ((n : Int)).toNat = n by omega, hc, mcells_three, ← stp_zero] at h
  exact h
end
section
open Go.RowKit
namespace Rc
/-- those that lead to a state, of the first f, and of the next one by its first b inputs -/
def preTo (next : Nat → List Nat) (f b t : Nat) : List Nat := (List.range f).filter (fun s => (next s).contains t) ++ (if ((next f).take b).contains t then [f] else [])
theorem preTo_zero (next : Nat → List Nat) (t : Nat) : preTo next 0 0 t = [] := by simp [preTo]
theorem preTo_next (next : Nat → List Nat) (f t : Nat) : preTo next f (next f).length t = preTo next (f + 1) 0 t := by
  unfold preTo
  rw [List.take_length, List.range_succ, List.filter_append, List.take_zero]
  have e : (List.filter (fun s => (next s).contains t) [f]) = if (next f).contains t then [f] else [] := by
    rw [List.filter_cons, List.filter_nil]
  rw [e]; simp
theorem preTo_len (next : Nat → List Nat) (f b t : Nat) : (preTo next f b t).length ≤ f + 1 := by
  unfold preTo
  rw [List.length_append]
  have h1 := List.length_filter_le (fun s => (next s).contains t) (List.range f)
  rw [List.length_range] at h1
  have h2 : (if ((next f).take b).contains t then [f] else []).length ≤ 1 := by split <;> simp
  omega
theorem preTo_lt (next : Nat → List Nat) (f b t x : Nat) (h : x ∈ preTo next f b t) : x ≤ f := by
  unfold preTo at h
  rcases List.mem_append.1 h with h | h
  · have := List.mem_range.1 (List.mem_filter.1 h).1; omega
  · split at h <;> simp at h; omega
theorem preTo_put (next : Nat → List Nat) (f b u : Nat) (hb : (next f)[b]? = some u) (hn : u ∉ (next f).take b) : ∀ t, preTo next f (b + 1) t = if t = u then preTo next f b u ++ [f] else preTo next f b t := by
  intro t
  obtain ⟨hbl, e⟩ := List.getElem?_eq_some_iff.1 hb
  unfold preTo
  rw [List.take_succ_eq_append_getElem hbl, e]
  by_cases h : t = u
  · subst h
    have h1 : ((next f).take b).contains t = false := by simpa using hn
    rw [if_pos rfl, h1]; simp
  · rw [if_neg h]
    have h1 : ((next f).take b ++ [u]).contains t = ((next f).take b).contains t := by simp [h]
    rw [h1]
theorem preTo_pass (next : Nat → List Nat) (f b u : Nat) (hb : (next f)[b]? = some u) (hn : u ∈ (next f).take b) : ∀ t, preTo next f (b + 1) t = preTo next f b t := by
  intro t
  obtain ⟨hbl, e⟩ := List.getElem?_eq_some_iff.1 hb
  unfold preTo
  rw [List.take_succ_eq_append_getElem hbl, e]
  by_cases h : t = u
  · subst h
    have h1 : ((next f).take b).contains t = true := by simpa using hn
    have h2 : ((next f).take b ++ [t]).contains t = true := by simp
    rw [h1, h2]
  · have h1 : ((next f).take b ++ [u]).contains t = ((next f).take b).contains t := by simp [h]
    rw [h1]
theorem preTo_last (next : Nat → List Nat) (f b u : Nat) (hn : u ∈ (next f).take b) : ∃ l, preTo next f b u = l ++ [f] := by
  have h1 : ((next f).take b).contains u = true := by simpa using hn
  exact ⟨_, by unfold preTo; rw [h1]; rfl⟩
theorem preTo_other (next : Nat → List Nat) (f b u x : Nat) (hn : u ∉ (next f).take b) (hx : x ∈ preTo next f b u) : x < f := by
  have h1 : ((next f).take b).contains u = false := by simpa using hn
  unfold preTo at hx
  rw [h1] at hx
  simp only [Bool.false_eq_true, if_false, List.append_nil] at hx
  exact List.mem_range.1 (List.mem_filter.1 hx).1
theorem preTo_all (next : Nat → List Nat) (S t s : Nat) : s ∈ preTo next S 0 t ↔ s < S ∧ t ∈ next s := by
  unfold preTo
  simp [List.mem_filter]
end Rc
/-- a table of rows that grow, each its own -/
structure AhAt (W : World) (gA S q : Nat) (vs : List Value) (P : Nat → List Nat) : Prop where
  top : RowIs W gA 26 vs
  len : vs.length = S
  own : ∀ (t : Nat) v, vs[t]? = some v → W.ownsRow q 3 1 v (P t).length ((P t).map intV)
  apart : ∀ (t t' : Nat) v v' b, vs[t]? = some v → vs[t']? = some v' → v.ownBlock = some b → v'.ownBlock = some b → t = t'
theorem AhAt.below {W W' : World} {gA S q : Nat} {vs : List Value} {P : Nat → List Nat} (h : AhAt W gA S q vs P) (hb : Below W.heap.size W W') : AhAt W' gA S q vs P :=
  ⟨h.top.below hb, h.len, fun t v hv => own_below (h.own t v hv) hb, h.apart⟩
theorem AhAt.congr {W : World} {gA S q : Nat} {vs : List Value} {P P' : Nat → List Nat} (h : AhAt W gA S q vs P) (e : ∀ t, P' t = P t) : AhAt W gA S q vs P' := by
  have : P' = P := funext e
  rw [this]; exact h
theorem AhAt.start (W : World) (S q : Nat) (next : Nat → List Nat) : AhAt (W.alloc (.cells ⟨List.replicate S (.slice none 0 0)⟩ 26)) W.heap.size S q (List.replicate S (.slice none 0 0)) (Rc.preTo next 0 0) := by
  have hv : ∀ (t : Nat) v, (List.replicate S (Value.slice none 0 0))[t]? = some v → v = .slice none 0 0 := fun t v h => (List.mem_replicate.1 (List.mem_of_getElem? h)).2
  refine ⟨RowIs.new _ _ _, by simp, fun t v h => ?_, fun t t' v v' b h _ hb => ?_⟩
  · rw [hv t v h, Rc.preTo_zero]; exact World.ownsRow_nil _ _ _ _
  · rw [hv t v h] at hb; cases hb
theorem AhAt.put {W wC : World} {gA S q u f g2 cap2 : Nat} {vs : List Value} {P : Nat → List Nat} {v : Value} {o : Obj} (h : AhAt W gA S q vs P) (hgA : gA < q) (hu : vs[u]? = some v)
    (hown : wC.ownsRow q 3 1 (.slice (some ⟨g2, 0, none⟩) ((P u).length + 1) cap2) ((P u).length + 1) ((P u).map intV ++ [intV f])) (hgrow : (W.alloc o).grownBy wC v.ownBlock) (hloc : v.ownBlock = some g2 ∨ g2 = W.heap.size + 1) :
    AhAt (wC.setCell ⟨gA, u, none⟩ (.slice (some ⟨g2, 0, none⟩) ((P u).length + 1) cap2)) gA S q (vs.set u (.slice (some ⟨g2, 0, none⟩) ((P u).length + 1) cap2)) (fun t => if t = u then P u ++ [f] else P t) := by
  have hul : u < vs.length := (List.getElem?_eq_some_iff.1 hu).1
  have hov := h.own u v hu
  have hgr : wC.grownBy (wC.setCell ⟨gA, u, none⟩ (.slice (some ⟨g2, 0, none⟩) ((P u).length + 1) cap2)) (some gA) := ⟨rfl, rfl, rfl, by simp [World.setCell], fun b _ hb => Below.heap_setCell _ _ _ _ (fun e => hb (congrArg some e))⟩
  have hne : ∀ {x : Value} {n : Nat} {l : List Value} {Z : World}, Z.ownsRow q 3 1 x n l → x.ownBlock = none ∨ x.ownBlock ≠ some gA := fun {x n l Z} hx => by
    cases hb : x.ownBlock with
    | none => exact .inl rfl
    | some b => exact .inr (fun e => by cases e; have := (hx.lt _ hb).1; omega)
  have hcase : ∀ (t : Nat) x, (vs.set u (.slice (some ⟨g2, 0, none⟩) ((P u).length + 1) cap2))[t]? = some x → (t = u ∧ x = .slice (some ⟨g2, 0, none⟩) ((P u).length + 1) cap2) ∨ (t ≠ u ∧ vs[t]? = some x) := fun t x hx => by
    by_cases e : t = u
    · subst e
      rw [List.getElem?_set_self hul] at hx
      exact .inl ⟨rfl, (Option.some.inj hx).symm⟩
    · rw [List.getElem?_set_ne (fun e2 => e e2.symm)] at hx
      exact .inr ⟨e, hx⟩
  have htop : RowIs wC gA 26 vs := by
    have h1 := h.top.alloc o
    refine (hgrow.block _ h1.lt (fun e => ?_)).trans h1
    have := (hov.lt _ e.symm).1
    omega
  refine ⟨htop.set u _, by simp [h.len], fun t x hx => ?_, fun t t' x x' b hx hx' hb hb' => ?_⟩
  · rcases hcase t x hx with ⟨rfl, rfl⟩ | ⟨hne2, hx⟩
    · have h1 := hown.kept hgr (hne hown)
      simp only [if_true]
      rw [List.length_append, List.map_append]
      exact h1
    · have h1 := h.own t x hx
      rw [if_neg hne2]
      refine ((h1.alloc o).kept hgrow ?_).kept hgr (hne h1)
      cases hb : x.ownBlock with
      | none => exact .inl rfl
      | some b => exact .inr (fun e => hne2 (h.apart t u x v b hx hu hb e.symm))
  · rcases hcase t x hx with ⟨e1, e2⟩ | ⟨hne2, hy⟩
    · rcases hcase t' x' hx' with ⟨e3, e4⟩ | ⟨hne3, hy'⟩
      · rw [e1, e3]
      · exfalso
        rw [e2] at hb
        cases hb
        have h1 := (h.own t' x' hy').lt _ hb'
        rcases hloc with hl | hl
        · exact hne3 (h.apart t' u x' v _ hy' hu hb' hl)
        · simp only at h1; omega
    · rcases hcase t' x' hx' with ⟨e3, e4⟩ | ⟨hne3, hy'⟩
      · exfalso
        rw [e4] at hb'
        cases hb'
        have h1 := (h.own t x hy).lt _ hb
        rcases hloc with hl | hl
        · exact hne2 (h.apart t u x v _ hy hu hb hl)
        · simp only at h1; omega
      · exact h.apart t t' x x' b hy hy' hb hb'
/-- what ahead comes to -/
def Aheaded (w : World) (S : Nat) (next : Nat → List Nat) (e : Ending) (w' : World) : Prop := ∃ g vs, e = .returned (slV g S) ∧ AhAt w' g S (g + 1) vs (Rc.preTo next S 0) ∧ w.heap.size ≤ g ∧ Below w.heap.size w w'
set_option maxHeartbeats 8000000 in
set_option maxRecDepth 100000 in
theorem ahead_any (bm S I gN : Nat) (next : Nat → List Nat) (uN : List Nat) (w : World) (h : NextAt w bm S I next gN uN) (hS : S ≤ 4096) (hI : I ≤ 64) (hnl : ∀ s, (next s).length = I) (hnx : ∀ f s, f < S → s ∈ next f → s < S) :
    Calls Tryz.prog 52 #[.pointer (some ⟨bm, 0, none⟩)] w (Aheaded w S next) := by
  obtain ⟨i0, hi0, hz0, hz1, hz2⟩ := info_parts Tryz.infoInt
  have HNA := hide h
  have HNL := hide hnl
  have HNX := hide hnx
  have mk := fun w => makeIss S (by omega) w
  obtain ⟨c4, hul, _⟩ := h
  have hbm : bm < w.heap.size := World.block_lt_of_cell? _ _ c4
  obtain ⟨cS, hcS⟩ : ∃ c, c = List.replicate S (Value.slice none 0 0) := ⟨_, rfl⟩
  rw [← hcS] at mk
  obtain ⟨w1, hw1⟩ : ∃ w1, w1 = w.alloc (.cells ⟨cS⟩ 26) := ⟨_, rfl⟩
  have HA1 : Hid (AhAt w1 w.heap.size S (w.heap.size + 1) cS (Rc.preTo next 0 0)) := by rw [hw1, hcS]; exact AhAt.start w S _ next
  have HB1 : Hid (Below w.heap.size w w1) := by rw [hw1]; exact (Below.refl _ _).alloc (Nat.le_refl _) _
  clear hcS hul hnl hnx
  go_enter Tryz.func52, Tryz.ntmps52
  go_wp2_with fail
  rw [← hw1]
  clear hw1
  go_loopw [20] (fun i wr => ∃ f : Nat, f ≤ S ∧ i = .int .i64 (f : Int) ∧ Hid (∃ vs, AhAt wr w.heap.size S (w.heap.size + 1) vs (Rc.preTo next f 0)) ∧ Hid (Below w.heap.size w wr)) (fun i _ => S - (intOf i).toNat)
  case atStart => exact ⟨0, Nat.zero_le _, rfl, ⟨_, HA1.out⟩, HB1.out⟩
  case round =>
    obtain ⟨f, hf, rfl, HA, HB⟩ := hrel
    by_cases hlt : f < S
    · have hna := HNA.out.below HB.out
      obtain ⟨bN, hbN⟩ : ∃ b, uN[f]? = some b := ⟨_, List.getElem?_eq_getElem (by rw [hna.2.1]; exact hlt)⟩
      have n1 := (hna.2.2 f bN hbN).1
      have HBN := hide hbN
      clear hna hbN
      go_wp2_with fail
      go_loopw [27] (fun i wr => ∃ b : Nat, b ≤ I ∧ i = .int .i64 (b : Int) ∧ Hid (∃ vs, AhAt wr w.heap.size S (w.heap.size + 1) vs (Rc.preTo next f b)) ∧ Hid (Below w.heap.size w wr)) (fun i _ => I - (intOf i).toNat)
      case atStart => exact ⟨0, Nat.zero_le _, rfl, HA.out, HB.out⟩
      case round =>
        obtain ⟨b, hb, rfl, HA, HB⟩ := hrel
        by_cases hbI : b < I
        · have hbl : b < (next f).length := by rw [HNL.out]; exact hbI
          have hx := List.getElem?_eq_getElem hbl
          have hxk : (next f)[b] < S := HNX.out f _ hlt (List.getElem_mem hbl)
          have hna := HNA.out.below HB.out
          have n2 := (hna.2.2 f bN HBN.out).2 b _ hx
          have HX := hide hx
          generalize (next f)[b] = u at *
          obtain ⟨vs, hah⟩ := HA.out
          obtain ⟨v, hv⟩ : ∃ v, vs[u]? = some v := ⟨_, List.getElem?_eq_getElem (by rw [hah.len]; exact hxk)⟩
          have hov := hah.own u v hv
          have t0 := hah.top.cell u v hv
          have tf := hah.top.frozen u
          obtain ⟨va, vc, rfl⟩ := own_slice hov
          have hpl := Rc.preTo_len next f b u
          have hwl : w.heap.size < wr.heap.size := World.block_lt_of_cell? _ _ t0
          have HAH := hide hah
          have HV := hide hv
          have HOV := hide hov
          have HPX := hide (fun hn => Rc.preTo_put next f b u HX.out hn)
          have HPS := hide (fun hn => Rc.preTo_pass next f b u HX.out hn)
          have HLA := hide (fun hn => Rc.preTo_last next f b u hn)
          have HOT := hide (fun x hn => Rc.preTo_other next f b u x hn)
          obtain ⟨pl, hplE⟩ : ∃ pl, pl = Rc.preTo next f b u := ⟨_, rfl⟩
          have HPE := hide hplE
          rw [← hplE] at hpl HOV HLA HOT t0 HV
          rw [← hplE] at HPX
          clear hna hx hah hv hov hplE
          have HONE : Hid (∀ u ∈ [Value.int .i64 (f : Int)], u.oneCell' = true) := by
            intro u hu
            simp only [List.mem_cons, List.not_mem_nil, or_false] at hu
            subst hu; rfl
          have hul : u < vs.length := (List.getElem?_eq_some_iff.1 HV.out).1
          have HFIN0 : Hid (u ∉ (next f).take b → ∀ (o : Obj) (g cap : Nat) (wC : World), wC.ownsRow (w.heap.size + 1) 3 1 (.slice (some ⟨g, 0, none⟩) (pl.length + 1) cap) (pl.length + 1) (pl.map intV ++ [intV f]) → (wr.alloc o).grownBy wC (Value.slice va pl.length vc).ownBlock → ((Value.slice va pl.length vc).ownBlock = some g ∨ g = wr.heap.size + 1) →
              (∃ vs, AhAt (wC.setCell ⟨w.heap.size, u, none⟩ (.slice (some ⟨g, 0, none⟩) (pl.length + 1) cap)) w.heap.size S (w.heap.size + 1) vs (Rc.preTo next f (b + 1))) ∧ Below w.heap.size w (wC.setCell ⟨w.heap.size, u, none⟩ (.slice (some ⟨g, 0, none⟩) (pl.length + 1) cap)) ∧ wC.cell? ⟨w.heap.size, u, none⟩ = some (.slice va pl.length vc) ∧ wC.frozen? ⟨w.heap.size, u, none⟩ = false) := by
            intro hn o g cap wC hown hgrow hloc
            have h1 := HAH.out.put (o := o) (f := f) (g2 := g) (cap2 := cap) (Nat.lt_succ_self _) HV.out (by rw [← HPE.out]; exact hown) hgrow hloc
            rw [← HPE.out] at h1
            have htop : RowIs wC w.heap.size 26 vs := by
              have h2 := HAH.out.top.alloc o
              refine (hgrow.block _ h2.lt (fun e => ?_)).trans h2
              have := (HOV.out.lt _ e.symm).1
              omega
            refine ⟨⟨_, h1.congr (HPX.out hn)⟩, ?_, htop.cell u _ HV.out, htop.frozen u⟩
            exact ((HB.out.alloc HB.out.size o).grown hgrow (by simp; omega) (fun j e => by have := (HOV.out.lt j e).1; omega)).setCell (p := ⟨w.heap.size, u, none⟩) (Nat.le_refl _) _
          by_cases hmem : u ∈ (next f).take b
          · obtain ⟨l, hl⟩ := HLA.out hmem
            obtain ⟨m, hm⟩ : ∃ m, pl.length = m + 1 := ⟨l.length, by rw [hl]; simp⟩
            obtain ⟨gv, hva, hcv, m0⟩ : ∃ g, va = some ⟨g, 0, none⟩ ∧ m + 1 ≤ vc ∧ wr.cell? ⟨g, m, none⟩ = some (intV f) := by
              rcases HOV.out.2 with ⟨_, h0⟩ | ⟨g, cap, cur, h1, _, hcur, hcap, _, _, htk⟩
              · omega
              · simp only [Value.slice.injEq] at h1
                have e : l.length = m := by rw [hl] at hm; simpa using hm
                exact ⟨g, h1.1, by rw [h1.2.2, ← hm]; exact hcap, row_cell hcur htk (by rw [List.getElem?_map, hl, ← e]; simp)⟩
            subst hva
            unfold intV at m0
            rw [hm] at t0
            have HAN : Hid (∃ vs, AhAt wr w.heap.size S (w.heap.size + 1) vs (Rc.preTo next f (b + 1))) := ⟨vs, HAH.out.congr (HPS.out hmem)⟩
            have hm5 : m ≤ 5000 := by omega
            have hm0 : ((m : Int) + 1 == 0) = false := by simp; omega
            clear hl hm hpl HFIN0
            go_wp2_with fail
            exact ⟨⟨b + 1, by omega, by go_num, HAN.out, HB.out⟩, by simp [intOf]; omega⟩
          · have HFIN := hide (HFIN0.out hmem (.cells #[.int .i64 (f : Int)] 3))
            have HOWN : Hid (∀ o, (wr.alloc o).ownsRow (w.heap.size + 1) 3 1 (.slice va pl.length vc) pl.length (pl.map intV)) := fun o => HOV.out.alloc o
            by_cases h0 : pl.length = 0
            · rw [h0] at t0 HFIN HOWN
              go_wp2_with (at_builtin; refine wpList_append_lies _ rfl (.tmp 63) (.tmp 65) 26 rfl (w.heap.size + 1) 3 i0 _ 1 8 Tryz.underlying26 hi0 hz0 hz1 hz2 rfl (by decide) (.slice va 0 vc) 0 (pl.map intV) rfl (HOWN.out _) ⟨wr.heap.size, 0, none⟩ 1 1 [.int .i64 (f : Int)] rfl rfl (World.news_of_block (heap_alloc_new wr _)) HONE.out (by decide) (by unfold maxLen; omega) (by omega) (by simp; omega) (wr.heap.size + 1) (by simp) ?_; intro g2 cap2 wC hown hgrow hat hltg; obtain ⟨haC, hbC, k0, k1⟩ := HFIN.out g2 cap2 wC hown hgrow hat; have HAC := hide haC; have HBC := hide hbC; clear haC hbC hown hgrow hat)
              exact ⟨⟨b + 1, by omega, by go_num, HAC.out, HBC.out⟩, by simp [intOf]; omega⟩
            · obtain ⟨m, hm⟩ : ∃ m, pl.length = m + 1 := ⟨pl.length - 1, by omega⟩
              have hml : m < pl.length := by omega
              have hxe := List.getElem?_eq_getElem hml
              have hxf := HOT.out _ hmem (List.mem_of_getElem? hxe)
              obtain ⟨gv, hva, hcv, m0⟩ : ∃ g, va = some ⟨g, 0, none⟩ ∧ m + 1 ≤ vc ∧ wr.cell? ⟨g, m, none⟩ = some (intV pl[m]) := by
                rcases HOV.out.2 with ⟨_, h0⟩ | ⟨g, cap, cur, h1, _, hcur, hcap, _, _, htk⟩
                · omega
                · simp only [Value.slice.injEq] at h1
                  exact ⟨g, h1.1, by rw [h1.2.2, ← hm]; exact hcap, row_cell hcur htk (by rw [List.getElem?_map, hxe]; rfl)⟩
              subst hva
              unfold intV at m0
              generalize pl[m] = x at *
              rw [hm] at t0 HFIN HOWN
              have hm5 : m ≤ 5000 := by omega
              have hm0 : ((m : Int) + 1 == 0) = false := by simp; omega
              have hxf1 : ((x : Int) != (f : Int)) = true := by simp; omega
              have hxf2 : ¬ (x = f) := by omega
              clear hxe hml hm h0 hpl
              go_wp2_with (at_builtin; refine wpList_append_lies _ rfl (.tmp 63) (.tmp 65) 26 rfl (w.heap.size + 1) 3 i0 _ 1 8 Tryz.underlying26 hi0 hz0 hz1 hz2 rfl (by decide) (.slice (some ⟨gv, 0, none⟩) (m + 1) vc) (m + 1) (pl.map intV) rfl (HOWN.out _) ⟨wr.heap.size, 0, none⟩ 1 1 [.int .i64 (f : Int)] rfl rfl (World.news_of_block (heap_alloc_new wr _)) HONE.out (by decide) (by unfold maxLen; omega) (by omega) (by simp; omega) (wr.heap.size + 1) (by simp) ?_; intro g2 cap2 wC hown hgrow hat hltg; obtain ⟨haC, hbC, k0, k1⟩ := HFIN.out g2 cap2 wC hown hgrow hat; have HAC := hide haC; have HBC := hide hbC; clear haC hbC hown hgrow hat)
              exact ⟨⟨b + 1, by omega, by go_num, HAC.out, HBC.out⟩, by simp [intOf]; omega⟩
        · have hbI' : b = I := by omega
          subst hbI'
          have HAN : Hid (∃ vs, AhAt wr w.heap.size S (w.heap.size + 1) vs (Rc.preTo next (f + 1) 0)) := by
            obtain ⟨vs, hah⟩ := HA.out
            exact ⟨vs, hah.congr (fun t => by rw [← Rc.preTo_next, HNL.out])⟩
          go_wp2_with fail
          exact ⟨⟨f + 1, by omega, by go_num, HAN.out, HB.out⟩, by simp [intOf]; omega⟩
    · have hfS : f = S := by omega
      subst hfS
      obtain ⟨vs, hah⟩ := HA.out
      have HAH := hide hah
      clear hah HA
      go_wp2_with fail
      go_ret
      exact ⟨w.heap.size, vs, rfl, HAH.out, Nat.le_refl _, HB.out⟩
end
end Go.Proofs.YtkfikffnljnepaaGreatDoor
