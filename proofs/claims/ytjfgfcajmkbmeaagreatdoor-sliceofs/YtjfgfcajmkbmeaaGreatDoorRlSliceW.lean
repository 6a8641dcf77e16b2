/-
  The walk of the document's own Slice.
-/
import Derived.Test.YtjfgfcajmkbmeaaGreatDoorRlSliceAll
import Derived.Test.YtjfgfcajmkbmeaaGreatDoorSlBuildAll
namespace Go.Proofs.YtjfgfcajmkbmeaaGreatDoor
open Go.RowKit
namespace Sl
theorem take_filterR {α : Type} (f : α → Bool) (l : List α) (k : Nat) (hk : k < l.length) : (l.take (k + 1)).filter f = if f l[k] then (l.take k).filter f ++ [l[k]] else (l.take k).filter f := by
  rw [List.take_succ_eq_append_getElem hk, List.filter_append]
  cases hf : f l[k] with
  | true => simp [hf]
  | false => simp [hf]
set_option maxHeartbeats 8000000 in
set_option maxRecDepth 100000 in
theorem RSlice_any (p : Ld.Prg) (v sv : Value) (names : List (List UInt8)) (w : World) (h : IsRPrg w p v) (hck : Ld.check p = none) (hs : Strs w sv (names.map toBA)) (hsl : ∀ s, s ∈ names → s.length ≤ maxLen) (hnl : names.length ≤ 1000) (hL : RLaid w) :
    Calls Tryz.prog 14 #[v, sv] w fun e w' => ∃ pv, e = .returned pv ∧ IsRPrg w' (partF p (fun s => (nmL p.names (needF (roundsS p (fun t => names.contains t) p.names.length) p.names p.names.length)).contains s)) pv ∧ Below w.heap.size w w' := by
  have HCR := hide (Ld.check_rungs p hck)
  have h12 := (Ld.check_names p hck).1
  have h40 := (Ld.check_names p hck).2.1
  have HPR := hide h
  have HND := hide (fun W (hW : Below w.heap.size w W) => RNeeds_any p v sv names W (h.below hW) hck (hs.below hW) hsl hnl (hL.below hW))
  obtain ⟨nv, rv, rfl, hn, hr⟩ := h
  have HNA := hide hn
  have HRA := hide hr
  obtain ⟨na, nc, rfl, _⟩ := hn.slice
  obtain ⟨ra, rc, rfl, _⟩ := hr.slice
  obtain ⟨sa, sc, rfl, _, _⟩ := Strs.at_ hs
  obtain ⟨n, hnn⟩ : ∃ n, n = p.names.length := ⟨_, rfl⟩
  obtain ⟨q, hqq⟩ : ∃ q, q = p.rungs.length := ⟨_, rfl⟩
  obtain ⟨u, huu⟩ : ∃ u, u = names.length := ⟨_, rfl⟩
  have HN := hide hnn
  have HQ := hide hqq
  rw [← hnn] at HNA h12 HND ⊢
  rw [← hqq] at HRA h40 HND ⊢
  rw [← huu] at HND ⊢
  obtain ⟨L0, hL0⟩ : ∃ L0, L0 = needF (roundsS p (fun t => names.contains t) n) p.names n := ⟨_, rfl⟩
  have hL0l : L0.length ≤ n := by rw [hL0]; exact needF_len _ _ _
  have HL0m : Hid (∀ i, i ∈ L0 → i < n) := fun i hi => by rw [hL0] at hi; exact List.mem_range.1 (List.mem_filter.1 hi).1
  have HL0 := hide hL0
  rw [← hL0] at HND
  clear hn hr hnn hqq huu hck hs hsl hL hnl hL0 HPR
  obtain ⟨wA, hwA⟩ : ∃ wA, wA = ((w.alloc (.cells #[.slice na n nc, .slice ra q rc] 30)).alloc (.cells #[.slice none 0 0, .slice none 0 0] 30)).alloc (.map #[] 0) := ⟨_, rfl⟩
  have hbA : Below w.heap.size w wA := by rw [hwA]; exact (((Below.refl _ _).alloc (Nat.le_refl _) _).alloc (by simp) _).alloc (by simp; omega) _
  have hsA : wA.heap.size = w.heap.size + 1 + 1 + 1 := by rw [hwA]; simp
  have hA0 : wA.heap[w.heap.size]? = some (.cells #[.slice na n nc, .slice ra q rc] 30 (0, 0)) := by rw [hwA]; exact (Below.heap_alloc _ _ _ (by simp; omega)).trans ((Below.heap_alloc _ _ _ (by simp)).trans (heap_alloc_new _ _))
  have hA1 : wA.heap[w.heap.size + 1]? = some (.cells #[.slice none 0 0, .slice none 0 0] 30 (0, 0)) := by
    rw [hwA]
    refine (Below.heap_alloc _ _ _ (by simp)).trans ?_
    have := heap_alloc_new (w.alloc (.cells #[.slice na n nc, .slice ra q rc] 30)) (.cells #[.slice none 0 0, .slice none 0 0] 30)
    rw [World.size_alloc] at this
    exact this
  have hM0 : SM wA (w.heap.size + 1 + 1) 0 (fun _ => false) := by
    rw [hwA]
    have := SM.made ((w.alloc (.cells #[.slice na n nc, .slice ra q rc] 30)).alloc (.cells #[.slice none 0 0, .slice none 0 0] 30))
    rw [World.size_alloc, World.size_alloc] at this
    exact this
  have HND2 := hide (HND.out wA hbA)
  obtain ⟨mb, hmb⟩ : ∃ mb, mb = w.heap.size + 1 + 1 := ⟨_, rfl⟩
  rw [← hmb] at hM0
  have HM0 := hide hM0
  have HLOW : Hid (∀ W, Two mb mb wA W → Below w.heap.size w W ∧ W.heap[w.heap.size]? = some (.cells #[.slice na n nc, .slice ra q rc] 30 (0, 0)) ∧ W.heap[w.heap.size + 1]? = some (.cells #[.slice none 0 0, .slice none 0 0] 30 (0, 0))) := by
    intro W hW
    exact ⟨⟨hW.os.trans hbA.os, hW.tape.trans hbA.tape, hW.output.trans hbA.output, Nat.le_trans hbA.size hW.size, fun k hk => (hW.block k (by omega) (by omega) (by omega)).trans (hbA.block k hk)⟩, (hW.block _ (by omega) (by omega) (by omega)).trans hA0, (hW.block _ (by omega) (by omega) (by omega)).trans hA1⟩
  have HWA := hide hwA
  rw [hwA] at HND2
  have HMB := hide hmb
  have hmk := @run_makeMap Tryz.prog
  have hmlt : mb < wA.heap.size := HM0.out.lt
  clear hwA hbA hA0 hA1 hM0 HND hmb
  go_enter Tryz.func14, Tryz.ntmps14
  go_wp2_with fail
  refine HND2.out.mono ?_
  rintro e w1 ⟨xv, rfl, hown, hb1⟩
  rw [← HWA.out] at hown hb1
  have HOW := hide hown
  obtain ⟨xa, xc, rfl⟩ := own_slice hown
  have HT1 : Hid (Two mb mb wA w1) := Two.below hb1
  have HSM1 := hide (HM0.out.below hb1)
  have hz1 := hb1.size
  have HNG : Hid (∀ k (hk : k < L0.length), ∃ g, xa = some ⟨g, 0, none⟩ ∧ L0.length ≤ xc ∧ g ≠ mb ∧ w1.cell? ⟨g, k, none⟩ = some (.int .i64 (L0[k] : Int))) := by
    intro k hk
    rcases HOW.out.2 with ⟨_, h0⟩ | ⟨g, cap, cur, h1, h2, h3, h4, h5, h6, h7⟩
    · omega
    · simp only [Value.slice.injEq] at h1
      have h9 : w1.cell? ⟨g, k, none⟩ = some (.int .i64 (L0[k] : Int)) := row_cell h3 h7 (by rw [List.getElem?_map, List.getElem?_eq_getElem hk]; rfl)
      exact ⟨g, h1.1, by omega, HSM1.out.cells h9, h9⟩
  obtain ⟨z, hz⟩ : ∃ z, z = L0.length := ⟨_, rfl⟩
  have HZ := hide hz
  rw [← hz] at hL0l ⊢
  rw [← HMB.out]
  clear hown hb1 HND2 hz hmk HMB HWA
  go_wp2_with fail
  go_loopw [18] (fun i wr => ∃ k : Nat, k ≤ z ∧ i = .int .i64 (k : Int) ∧ Hid (SM wr mb k (fun t => (nmL p.names (L0.take k)).contains t)) ∧ Hid (Two mb mb w1 wr)) (fun i _ => z - (intOf i).toNat)
  case atStart => exact ⟨0, Nat.zero_le _, rfl, HSM1.out, Two.refl _ _ _⟩
  case round =>
    obtain ⟨k, hk, rfl, HSM, HTW⟩ := hrel
    generalize wr = wt at *
    obtain ⟨hlow, hb0, hb1⟩ := HLOW.out wt (HT1.out.trans HTW.out)
    have e0 : wt.cell? ⟨w.heap.size, 0, none⟩ = some (.slice na n nc) := by rw [Lib.cell_of_heap hb0]; rfl
    have hwt : w.heap.size < wt.heap.size := (Array.getElem?_eq_some_iff.1 hb0).1
    by_cases hlt : k < z
    · have hkl : k < L0.length := by rw [← HZ.out]; exact hlt
      obtain ⟨g, hga, hgc, hgm, hcg⟩ := HNG.out k hkl
      subst hga
      have hin := HL0m.out _ (List.getElem_mem hkl)
      have hcr := Two.cell HTW.out hcg hgm
      have HTK : Hid (L0.take (k + 1) = L0.take k ++ [L0[k]]) := List.take_succ_eq_append_getElem hkl
      rw [← HZ.out] at hgc
      generalize L0[k] = i at *
      have hip : i < p.names.length := by rw [← HN.out]; exact hin
      obtain ⟨gn, hgn, hcn, c0, c3⟩ : ∃ gn, na = some ⟨gn, 0, none⟩ ∧ n ≤ nc ∧ wt.cell? ⟨gn, i * 3, none⟩ = some (.string ⟨p.names[i].name.toArray⟩) ∧ p.names[i].name.length ≤ maxLen := by
        rcases HNA.out.below hlow with ⟨h0, _⟩ | ⟨g', cap, h1, h2, h3, h4⟩
        · rw [h0] at hip; simp at hip
        · simp only [Value.slice.injEq] at h1
          have h5 := h4 i _ (List.getElem?_eq_getElem hip)
          exact ⟨g', h1.1, by rw [h1.2.2, HN.out]; exact h2, h5.1, h5.2.2.2.1⟩
      subst hgn
      have HFX : Hid ((fun t => (nmL p.names (L0.take k)).contains t || t == p.names[i].name) = fun t => (nmL p.names (L0.take (k + 1))).contains t) := by
        show _ = _
        funext t
        have e : (p.names.getD i ⟨[], 0, 0⟩).name = p.names[i].name := by simp [hip]
        rw [HTK.out, Bool.eq_iff_iff, Bool.or_eq_true, List.contains_iff_mem, List.contains_iff_mem, beq_iff_eq]
        unfold nmL
        rw [List.map_append, List.mem_append, List.map_cons, List.map_nil, List.mem_singleton, e]
      generalize p.names[i].name = s at *
      obtain ⟨w6, hrun, hsm, htr⟩ := HSM.out.put (by unfold maxLen; omega) s c3
      rw [HFX.out] at hsm
      have HSM6 := hide hsm
      have HTW6 := hide (HTW.out.trans (Two.turned htr))
      clear hcg hsm htr hlow hb0 hb1
      go_wp2_with fail
      go_roundw
      case rel => exact ⟨k + 1, by omega, by go_num, HSM6.out, HTW6.out⟩
      case measure => simp [intOf]; omega
    · obtain rfl : z = k := by omega
      obtain ⟨f, hf⟩ : ∃ f : List UInt8 → Bool, f = fun t => (nmL p.names L0).contains t := ⟨_, rfl⟩
      have HSF : Hid (SM wt mb z f) := by
        have h1 := HSM.out
        rw [show L0.take z = L0 by rw [HZ.out, List.take_length], ← hf] at h1
        exact h1
      have HFF := hide hf
      have hmt : mb < wt.heap.size := HSF.out.lt
      obtain ⟨wS, hwS⟩ : ∃ wS, wS = wt.alloc (.cells #[.slice none 0 0, .slice none 0 0] 30) := ⟨_, rfl⟩
      have hbS : Below wt.heap.size wt wS := by rw [hwS]; exact (Below.refl _ _).alloc (Nat.le_refl _) _
      have hzS : wS.heap.size = wt.heap.size + 1 := by rw [hwS]; simp
      have HP0 : Hid (QN wS wt.heap.size [] (.slice none 0 0) wS) := ⟨Below.refl _ _, by rw [hwS]; exact heap_alloc_new _ _, ⟨rfl, .inl ⟨rfl, rfl⟩⟩, (fun n hn => by cases hn)⟩
      have hw1t : w.heap.size + 1 < wt.heap.size := (Array.getElem?_eq_some_iff.1 hb1).1
      have HLW2 : Hid (∀ W, Below wt.heap.size wS W → Below w.heap.size w W ∧ SM W mb z f ∧ W.heap[w.heap.size]? = some (.cells #[.slice na n nc, .slice ra q rc] 30 (0, 0)) ∧ W.heap[w.heap.size + 1]? = some (.cells #[.slice none 0 0, .slice none 0 0] 30 (0, 0))) := by
        intro W hW
        have h1 : Below wt.heap.size wt W := hbS.trans hW
        exact ⟨hlow.trans (h1.mono hlow.size), HSF.out.below h1, (h1.block _ hwt).trans hb0, (h1.block _ hw1t).trans hb1⟩
      have cS : wS.cell? ⟨w.heap.size, 0, none⟩ = some (.slice na n nc) := by rw [Lib.cell_of_heap (HLW2.out wS (Below.refl _ _)).2.2.1]; rfl
      rw [hwS] at cS
      obtain ⟨b, hb⟩ : ∃ b, b = wt.heap.size := ⟨_, rfl⟩
      rw [← hb] at HP0 HLW2 hzS hwt hw1t hmt
      obtain ⟨iN, hiN, hzN0, hzN1, hzN2⟩ := info_parts Tryz.infoRName
      obtain ⟨iR, hiR, hzR0, hzR1, hzR2⟩ := info_parts Tryz.infoRRung2
      have HWS := hide hwS
      have HBW := hide hb
      clear hf hlow hb0 hb1 hwS hbS HSM hb
      go_wp2_with fail
      rw [← HWS.out, ← HBW.out]
      clear HWS HBW e0 cS
      go_loopw [33] (fun i wr => ∃ k : Nat, k ≤ n ∧ i = .int .i64 (k : Int) ∧ ∃ xv : Value, Hid (QN wS b ((p.names.take k).filter fun y => y.kind == 1 || f y.name) xv wr)) (fun i _ => n - (intOf i).toNat)
      case atStart => exact ⟨0, Nat.zero_le _, rfl, _, HP0.out⟩
      case round =>
        obtain ⟨k, hk, rfl, xv, HPN⟩ := hrel
        generalize wr = wo at *
        obtain ⟨hlow, hsm, hb0, hb1⟩ := HLW2.out wo HPN.out.low
        have hzo := HPN.out.lt
        have f1 : ((p.names.take k).filter fun y => y.kind == 1 || f y.name).length ≤ n := by
          refine Nat.le_trans (List.length_filter_le _ _) ?_
          rw [List.length_take, HN.out]
          omega
        by_cases hlt2 : k < n
        · have hkl : k < p.names.length := by rw [← HN.out]; exact hlt2
          have HTF := hide (take_filterR (fun y : Ld.Nme => y.kind == 1 || f y.name) p.names k hkl)
          obtain ⟨g, hga, hcap, c1, c2, c3, c4, c5, c6⟩ : ∃ g, na = some ⟨g, 0, none⟩ ∧ n ≤ nc ∧ NameAt wo g k p.names[k] := by
            rcases HNA.out.below hlow with ⟨h0, _⟩ | ⟨g, cap, h1, h2, h3, h4⟩
            · rw [h0] at hkl; simp at hkl
            · simp only [Value.slice.injEq] at h1
              exact ⟨g, h1.1, by rw [h1.2.2, HN.out]; exact h2, h4 k _ (List.getElem?_eq_getElem hkl)⟩
          subst hga
          have HBD : Hid (p.names[k].name.length ≤ maxLen ∧ I64 p.names[k].kind ∧ I64 p.names[k].count) := ⟨c4, c5, c6⟩
          generalize p.names[k] = y at *
          obtain ⟨nm, kd, ct⟩ := y
          simp only at c1 c2 c3 c4 HTF HBD
          generalize hLL : (p.names.take k).filter (fun y : Ld.Nme => y.kind == 1 || f y.name) = L at *
          obtain ⟨ln, hln⟩ : ∃ ln, ln = L.length := ⟨_, rfl⟩
          rw [← hln] at f1
          obtain ⟨ya, yc, rfl⟩ := own_slice HPN.out.on
          rw [← hln] at HPN
          have HLL := hide hln
          obtain ⟨wB, hwB⟩ : ∃ wB, wB = wo.alloc (.cells #[.string ⟨nm.toArray⟩, .int .i64 kd, .int .i64 ct] 58) := ⟨_, rfl⟩
          have hbB : Below wo.heap.size wo wB := by rw [hwB]; exact (Below.refl _ _).alloc (Nat.le_refl _) _
          have HPB := hide (HPN.out.below hbB)
          have hzB : wB.heap.size = wo.heap.size + 1 := by rw [hwB]; simp
          have hlk := (hsm.below hbB).look nm c4
          have HFIN : Hid (∀ (o : Obj) (g cap : Nat) (wC : World), wC.ownsRow (b + 1) 58 3 (.slice (some ⟨g, 0, none⟩) (ln + 1) cap) (ln + 1) (L.flatMap nmCells ++ nmCells ⟨nm, kd, ct⟩) → (wB.alloc o).grownBy wC (Value.slice ya ln yc).ownBlock →
              (wC.cell? ⟨b, 0, none⟩ = some (.slice ya ln yc) ∧ wC.frozen? ⟨b, 0, none⟩ = false) ∧ QN wS b (L ++ [⟨nm, kd, ct⟩]) (.slice (some ⟨g, 0, none⟩) (ln + 1) cap) (wC.setCell ⟨b, 0, none⟩ (.slice (some ⟨g, 0, none⟩) (ln + 1) cap))) := by
            intro o g cap wC h1 h2
            rw [HLL.out] at h1 h2 ⊢
            have h3 := HPB.out.below (W' := wB.alloc o) ((Below.refl _ _).alloc (Nat.le_refl _) _)
            rw [HLL.out] at h3
            exact h3.put ⟨nm, kd, ct⟩ HBD.out g cap h1 h2
          have HOWN : Hid (∀ o, (wB.alloc o).ownsRow (b + 1) 58 3 (.slice ya ln yc) ln (L.flatMap nmCells)) := fun o => by
            have h3 := HPB.out.on.alloc o
            rwa [← HLL.out] at h3
          have HONE : Hid (∀ u ∈ nmCells ⟨nm, kd, ct⟩, u.oneCell' = true) := by
            intro u hu
            simp only [nmCells, List.mem_cons, List.not_mem_nil, or_false] at hu
            rcases hu with rfl | rfl | rfl <;> rfl
          have d0 : wo.cell? ⟨b, 0, none⟩ = some (.slice ya ln yc) := by rw [Lib.cell_of_heap HPN.out.blk]; rfl
          have HNEW : Hid (∀ o, (wB.alloc o).heap[wo.heap.size + 1]? = some o) := fun o => by have h3 := heap_alloc_new wB o; rw [hzB] at h3; exact h3
          have HWB := hide hwB
          rw [hwB] at HFIN HOWN HNEW hlk
          have hbo : b < wo.heap.size := hzo
          clear hln hlow hb0 hb1 hwB hbB HBD HPN c4 c5 c6 hLL hsm
          by_cases hk1 : kd = 1
          · have hk2 : (kd == 1) = true := beq_iff_eq.2 hk1
            have HNX2 : Hid ((p.names.take (k + 1)).filter (fun y : Ld.Nme => y.kind == 1 || f y.name) = L ++ [⟨nm, kd, ct⟩]) := by show _ = _; rw [HTF.out, hk2]; rfl
            clear hk1
            go_wp2_with (at_builtin; refine wpList_append_lies _ rfl (.tmp 47) (.tmp 49) 27 rfl (b + 1) 58 iN _ 3 32 Tryz.underlying27 hiN hzN0 hzN1 hzN2 rfl (by decide) (.slice ya ln yc) ln (L.flatMap nmCells) rfl (HOWN.out _) ⟨wo.heap.size + 1, 0, none⟩ 1 1 (nmCells ⟨nm, kd, ct⟩) rfl rfl (World.news_of_block (HNEW.out _)) HONE.out (by decide) (by unfold maxLen; omega) (by omega) (by simp; omega) (wo.heap.size + 1 + 1) (by simp) ?_; intro g5 cap5 wC hown hgrow hat hltg; obtain ⟨⟨hcA, hfA⟩, hTA⟩ := HFIN.out _ g5 cap5 wC hown hgrow; have HTA := hide hTA; clear hTA hown hgrow hat)
            go_roundw
            case rel => exact ⟨k + 1, by omega, by go_num, _, by rw [HNX2.out]; exact HTA.out⟩
            case measure => simp [intOf]; omega
          · have hk2 : (kd == 1) = false := beq_eq_false_iff_ne.2 hk1
            cases hfn : f nm with
            | true =>
              rw [hfn] at hlk
              have HNX2 : Hid ((p.names.take (k + 1)).filter (fun y : Ld.Nme => y.kind == 1 || f y.name) = L ++ [⟨nm, kd, ct⟩]) := by show _ = _; rw [HTF.out, hk2, hfn]; rfl
              clear hfn hk1
              go_wp2_with (at_builtin; refine wpList_append_lies _ rfl (.tmp 47) (.tmp 49) 27 rfl (b + 1) 58 iN _ 3 32 Tryz.underlying27 hiN hzN0 hzN1 hzN2 rfl (by decide) (.slice ya ln yc) ln (L.flatMap nmCells) rfl (HOWN.out _) ⟨wo.heap.size + 1, 0, none⟩ 1 1 (nmCells ⟨nm, kd, ct⟩) rfl rfl (World.news_of_block (HNEW.out _)) HONE.out (by decide) (by unfold maxLen; omega) (by omega) (by simp; omega) (wo.heap.size + 1 + 1) (by simp) ?_; intro g5 cap5 wC hown hgrow hat hltg; obtain ⟨⟨hcA, hfA⟩, hTA⟩ := HFIN.out _ g5 cap5 wC hown hgrow; have HTA := hide hTA; clear hTA hown hgrow hat)
              go_roundw
              case rel => exact ⟨k + 1, by omega, by go_num, _, by rw [HNX2.out]; exact HTA.out⟩
              case measure => simp [intOf]; omega
            | false =>
              rw [hfn] at hlk
              have HNX2 : Hid ((p.names.take (k + 1)).filter (fun y : Ld.Nme => y.kind == 1 || f y.name) = L) := by show _ = _; rw [HTF.out, hk2, hfn]; rfl
              clear hfn hk1
              go_wp2_with fail
              go_roundw
              case rel => exact ⟨k + 1, by omega, by go_num, _, by rw [HNX2.out]; rw [HWB.out] at HPB; exact HPB.out⟩
              case measure => simp [intOf]; omega
        · obtain rfl : n = k := by omega
          obtain ⟨NS, hNS⟩ : ∃ NS, NS = p.names.filter fun y => y.kind == 1 || f y.name := ⟨_, rfl⟩
          have hpt : ((p.names.take n).filter fun y => y.kind == 1 || f y.name) = NS := by rw [hNS, HN.out, List.take_length]
          rw [hpt] at HPN f1
          have HNS := hide hNS
          have HR0 := hide (HPN.out.rungs (by omega))
          obtain ⟨xa2, xc2, rfl⟩ := own_slice HPN.out.on
          have d1 : wo.cell? ⟨w.heap.size, 1, none⟩ = some (.slice ra q rc) := by rw [Lib.cell_of_heap hb0]; rfl
          have hwo : w.heap.size < wo.heap.size := by omega
          obtain ⟨xl, hxl⟩ : ∃ xl, xl = NS.length := ⟨_, rfl⟩
          rw [← hxl] at HR0
          clear hlow hb0 hb1 HPN hpt hNS hsm hxl
          go_wp2_with fail
          go_loopw [56] (fun i wr => ∃ k : Nat, k ≤ q ∧ i = .int .i64 (k : Int) ∧ ∃ (yv : Value) (rs : List (Ld.Rng × Value)), Hid (QR wS b NS rs (.slice xa2 xl xc2) yv wr) ∧ Hid ((rs.map fun r => r.1) = (p.rungs.take k).filter fun r => f r.name)) (fun i _ => q - (intOf i).toNat)
          case atStart => exact ⟨0, Nat.zero_le _, rfl, _, [], HR0.out, rfl⟩
          case round =>
            obtain ⟨j, hj, rfl, yv, rs, HPR2, HRS⟩ := hrel
            obtain ⟨hlow, hsm, hb0, hb1⟩ := HLW2.out wr HPR2.out.low
            have hzr := HPR2.out.lt
            have hlr : rs.length ≤ q := by
              have h3 := congrArg List.length HRS.out
              rw [List.length_map] at h3
              rw [h3]
              refine Nat.le_trans (List.length_filter_le _ _) ?_
              rw [List.length_take]
              omega
            obtain ⟨ya, yc, rfl⟩ := own_slice HPR2.out.org
            by_cases hlt3 : j < q
            · have hjl : j < p.rungs.length := by rw [← HQ.out]; exact hlt3
              have HTF := hide (take_filterR (fun r : Ld.Rng => f r.name) p.rungs j hjl)
              obtain ⟨r, hr⟩ : ∃ r, r = p.rungs[j] := ⟨_, rfl⟩
              have hrm : r ∈ p.rungs := by rw [hr]; exact List.getElem_mem hjl
              obtain ⟨g, hga, hcap, hrg⟩ : ∃ g, ra = some ⟨g, 0, none⟩ ∧ q ≤ rc ∧ RRungAt wr g j r := by
                rcases HRA.out.below hlow with ⟨h0, _⟩ | ⟨g, cap, h1, h2, h3, h4⟩
                · rw [h0] at hjl; simp at hjl
                · simp only [Value.slice.injEq] at h1
                  exact ⟨g, h1.1, by rw [h1.2.2, HQ.out]; exact h2, h4 j r (by rw [hr]; exact List.getElem?_eq_getElem hjl)⟩
              subst hga
              obtain ⟨x, hx⟩ : ∃ x, r.cond = some x := by
                obtain ⟨_, _, _, _, x, h1, h2⟩ := HCR.out r hrm
                exact ⟨x, h1⟩
              obtain ⟨v, c0, c1, c2, c3, c4, c5⟩ := hrg
              have HCD := hide c5
              rw [hx] at c5
              obtain ⟨gx, rfl, _⟩ := c5
              rw [← hr] at HTF
              obtain ⟨kd, rn, cd⟩ := r
              simp only at c0 c1 c3 c4 HCD HTF
              have HBD : Hid (rn.length ≤ maxLen ∧ I64 kd) := ⟨c3, c4⟩
              obtain ⟨w4, hw4⟩ : ∃ w4, w4 = wr.alloc (.cells #[.int .i64 kd, .string ⟨rn.toArray⟩, .pointer (some ⟨gx, 0, none⟩)] 72) := ⟨_, rfl⟩
              have hb4 : Below wr.heap.size wr w4 := by rw [hw4]; exact (Below.refl _ _).alloc (Nat.le_refl _) _
              have hz4 : w4.heap.size = wr.heap.size + 1 := by rw [hw4]; simp
              have HP4 := hide (HPR2.out.below hb4)
              have HC4 := hide (HCD.out.below hb4)
              have hlk := (hsm.below hb4).look rn c3
              have hwr : w.heap.size < wr.heap.size := by omega
              have hbr : b < wr.heap.size := hzr
              have d0 : wr.cell? ⟨b, 1, none⟩ = some (.slice ya rs.length yc) := by rw [Lib.cell_of_heap HPR2.out.blk]; rfl
              have HW4 := hide hw4
              rw [hw4] at hlk
              clear hr hrm hx hb4 hlow hb0 hb1 c3 c4 d1 hsm hw4
              cases hfn : f rn with
              | false =>
                rw [hfn] at hlk
                have HNX : Hid ((rs.map fun r => r.1) = (p.rungs.take (j + 1)).filter fun r => f r.name) := by
                  show _ = _
                  rw [HTF.out, HRS.out, hfn]
                  rfl
                clear hfn
                go_wp2_with fail
                go_roundw
                case rel => exact ⟨j + 1, by omega, by go_num, _, rs, by rw [← HW4.out]; exact HP4.out, HNX.out⟩
                case measure => simp [intOf]; omega
              | true =>
                rw [hfn] at hlk
                have HNX : Hid (((rs ++ [((⟨kd, rn, cd⟩ : Ld.Rng), Value.pointer (some ⟨gx, 0, none⟩))]).map fun r => r.1) = (p.rungs.take (j + 1)).filter fun r => f r.name) := by
                  show _ = _
                  rw [HTF.out, List.map_append, HRS.out, hfn]
                  rfl
                clear hfn
                obtain ⟨ln, hln⟩ : ∃ ln, ln = rs.length := ⟨_, rfl⟩
                rw [← hln] at HP4 hlr d0
                have HLL := hide hln
                have HFIN : Hid (∀ (o : Obj) (g cap : Nat) (wC : World), wC.ownsRow (b + 1) 72 3 (.slice (some ⟨g, 0, none⟩) (ln + 1) cap) (ln + 1) (rs.flatMap rgCells ++ rgCells (⟨kd, rn, cd⟩, .pointer (some ⟨gx, 0, none⟩))) → (w4.alloc o).grownBy wC (Value.slice ya ln yc).ownBlock →
                    (wC.cell? ⟨b, 1, none⟩ = some (.slice ya ln yc) ∧ wC.frozen? ⟨b, 1, none⟩ = false) ∧ QR wS b NS (rs ++ [(⟨kd, rn, cd⟩, .pointer (some ⟨gx, 0, none⟩))]) (.slice xa2 xl xc2) (.slice (some ⟨g, 0, none⟩) (ln + 1) cap) (wC.setCell ⟨b, 1, none⟩ (.slice (some ⟨g, 0, none⟩) (ln + 1) cap))) := by
                  intro o g cap wC h1 h2
                  rw [HLL.out] at h1 h2 ⊢
                  have h3 := HP4.out.below (W' := w4.alloc o) ((Below.refl _ _).alloc (Nat.le_refl _) _)
                  rw [HLL.out] at h3
                  exact h3.put (⟨kd, rn, cd⟩, .pointer (some ⟨gx, 0, none⟩)) ⟨HBD.out.1, HBD.out.2, HC4.out.below ((Below.refl _ _).alloc (Nat.le_refl _) _)⟩ g cap h1 h2
                have HOWN : Hid (∀ o, (w4.alloc o).ownsRow (b + 1) 72 3 (.slice ya ln yc) ln (rs.flatMap rgCells)) := fun o => by
                  have h3 := HP4.out.org.alloc o
                  rwa [← HLL.out] at h3
                have HONE : Hid (∀ u ∈ rgCells (⟨kd, rn, cd⟩, .pointer (some ⟨gx, 0, none⟩)), u.oneCell' = true) := by
                  intro u hu
                  simp only [rgCells, List.mem_cons, List.not_mem_nil, or_false] at hu
                  rcases hu with rfl | rfl | rfl <;> rfl
                have HNEW : Hid (∀ o, (w4.alloc o).heap[wr.heap.size + 1]? = some o) := fun o => by have h3 := heap_alloc_new w4 o; rw [hz4] at h3; exact h3
                rw [HW4.out] at HFIN HOWN HNEW
                clear hln HPR2
                go_wp2_with (at_builtin; refine wpList_append_lies _ rfl (.tmp 65) (.tmp 67) 28 rfl (b + 1) 72 iR _ 3 32 Tryz.underlying28 hiR hzR0 hzR1 hzR2 rfl (by decide) (.slice ya ln yc) ln (rs.flatMap rgCells) rfl (HOWN.out _) ⟨wr.heap.size + 1, 0, none⟩ 1 1 (rgCells (⟨kd, rn, cd⟩, .pointer (some ⟨gx, 0, none⟩))) rfl rfl (World.news_of_block (HNEW.out _)) HONE.out (by decide) (by unfold maxLen; omega) (by omega) (by simp; omega) (wr.heap.size + 1 + 1) (by simp) ?_; intro g5 cap5 wC hown hgrow hat hltg; obtain ⟨⟨hcA, hfA⟩, hTA⟩ := HFIN.out _ g5 cap5 wC hown hgrow; have HTA := hide hTA; clear hTA hown hgrow hat)
                go_roundw
                case rel => exact ⟨j + 1, by omega, by go_num, _, _, HTA.out, HNX.out⟩
                case measure => simp [intOf]; omega
            · obtain rfl : q = j := by omega
              have e0 : wr.cell? ⟨b, 0, none⟩ = some (.slice xa2 xl xc2) := by rw [Lib.cell_of_heap HPR2.out.blk]; rfl
              have e1 : wr.cell? ⟨b, 1, none⟩ = some (.slice ya rs.length yc) := by rw [Lib.cell_of_heap HPR2.out.blk]; rfl
              have f0 : wr.frozen? ⟨w.heap.size + 1, 0, none⟩ = false := Lib.frozen_of_heap hb1 0
              have f1 : wr.frozen? ⟨w.heap.size + 1, 1, none⟩ = false := Lib.frozen_of_heap hb1 1
              have g0 : wr.cell? ⟨w.heap.size + 1, 0, none⟩ = some (.slice none 0 0) := by rw [Lib.cell_of_heap hb1]; rfl
              have g1 : wr.cell? ⟨w.heap.size + 1, 1, none⟩ = some (.slice none 0 0) := by rw [Lib.cell_of_heap hb1]; rfl
              obtain ⟨wF, hwF⟩ : ∃ wF, wF = (wr.setCell ⟨w.heap.size + 1, 0, none⟩ (.slice xa2 xl xc2)).setCell ⟨w.heap.size + 1, 1, none⟩ (.slice ya rs.length yc) := ⟨_, rfl⟩
              have hst : RStay wr wF := fun g i u hp hc => by
                have hne : g ≠ w.heap.size + 1 := by
                  intro e
                  rcases hp with (⟨s, h1⟩ | ⟨t, y, h1⟩) | ⟨a, h1⟩
                  all_goals rw [e, g0] at h1; cases h1
                rw [hwF, World.cell?_of_block (Below.heap_setCell _ _ _ _ (fun e => hne e)), World.cell?_of_block (Below.heap_setCell _ _ _ _ (fun e => hne e))]
                exact hc
              have hlo : Below w.heap.size w wF := by rw [hwF]; exact (hlow.setCell (by simp) _).setCell (by simp) _
              have hF : wF.heap[w.heap.size + 1]? = some (.cells #[.slice xa2 xl xc2, .slice ya rs.length yc] 30 (0, 0)) := by rw [hwF]; simp [World.setCell, Array.getElem?_modify, hb1]
              have k0 : wF.cell? ⟨w.heap.size + 1, 0, none⟩ = some (.slice xa2 xl xc2) := by rw [Lib.cell_of_heap hF]; rfl
              have k1 : wF.cell? ⟨w.heap.size + 1, 1, none⟩ = some (.slice ya rs.length yc) := by rw [Lib.cell_of_heap hF]; rfl
              have hgw : wr.grownBy wF (some (w.heap.size + 1)) := by
                rw [hwF]
                exact ⟨rfl, rfl, rfl, by simp [World.setCell], fun k _ hk => (Below.heap_setCell _ _ _ _ (fun e => hk (by simp [e]))).trans (Below.heap_setCell _ _ _ _ (fun e => hk (by simp [e])))⟩
              have HFN : Hid (IsRPrg wF (partF p f) (.agg #[.slice xa2 xl xc2, .slice ya rs.length yc])) := by
                have h2 : QR wF b NS rs (.slice xa2 xl xc2) (.slice ya rs.length yc) wF := by
                  refine ⟨Below.refl _ _, (hgw.block b hzr (fun e => by simp at e; omega)).trans HPR2.out.blk, names_stay hst.names HPR2.out.nat, HPR2.out.org.kept hgw ?_, fun r hr => ⟨(HPR2.out.br r hr).1, (HPR2.out.br r hr).2.1, rcond_stay hst (HPR2.out.br r hr).2.2⟩, HPR2.out.e0⟩
                  cases ho : (Value.slice ya rs.length yc).ownBlock with
                  | none => exact .inl rfl
                  | some g => right; intro e; have := (HPR2.out.org.lt g ho).1; simp at e; omega
                have h3 := h2.prg (by omega)
                rw [HRS.out, HQ.out, List.take_length, HNS.out] at h3
                exact h3
              have HLO := hide hlo
              clear hb1 hst hlo hgw hF hb0 hlow hsm d1
              go_wp2_with fail
              rw [← hwF]
              refine bodyPost_ret_by (v := .agg #[.slice xa2 xl xc2, .slice ya rs.length yc]) ?_ rfl ?_
              · simp [results, Tryz.results14, go_sem, k0, k1]
              · refine ⟨_, rfl, ?_, HLO.out⟩
                have h9 := HFN.out
                rw [HFF.out, HL0.out] at h9
                exact h9
end Sl
end Go.Proofs.YtjfgfcajmkbmeaaGreatDoor
