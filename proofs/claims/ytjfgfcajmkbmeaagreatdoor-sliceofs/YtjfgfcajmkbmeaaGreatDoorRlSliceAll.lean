/-
  The walk of the document's own Needs: as many rounds over all rungs as there are names. The walk of the document's own Slice: all inputs, the names that are needed, and their rungs.
-/
import Derived.Test.YtjfgfcajmkbmeaaGreatDoorRlMapAll
import Derived.Test.YtjfgfcajmkbmeaaGreatDoorRlCheck
import Derived.Test.YtjfgfcajmkbmeaaGreatDoorSlAddAll
import Derived.Test.YtjfgfcajmkbmeaaGreatDoorRdListAll
import Derived.Test.YtjfgfcajmkbmeaaGreatDoorLdTakeRAll
import Derived.Test.YtjfgfcajmkbmeaaGreatDoorRlTidyW
namespace Go.Proofs.YtjfgfcajmkbmeaaGreatDoor
section
open Go.RowKit
namespace Sl
/-- the numbers below k of names of which f tells -/
def needF (f : List UInt8 → Bool) (ns : List Ld.Nme) (k : Nat) : List Nat := (List.range k).filter fun i => f (ns.getD i ⟨[], 0, 0⟩).name
theorem needF_succ (f : List UInt8 → Bool) (ns : List Ld.Nme) (k : Nat) : needF f ns (k + 1) = needF f ns k ++ (if f (ns.getD k ⟨[], 0, 0⟩).name then [k] else []) := by
  unfold needF
  rw [List.range_succ, List.filter_append]
  congr 1
  rw [List.filter_cons, List.filter_nil]
theorem needF_len (f : List UInt8 → Bool) (ns : List Ld.Nme) (k : Nat) : (needF f ns k).length ≤ k := Nat.le_trans (List.length_filter_le _ _) (by simp)
theorem SM.cells {W : World} {b n : Nat} {f : List UInt8 → Bool} (h : SM W b n f) {g i : Nat} {u : Value} (hc : W.cell? ⟨g, i, none⟩ = some u) : g ≠ b := by
  intro e
  obtain ⟨D, ⟨es, clock, h1, _⟩, _⟩ := h
  subst e
  simp [World.cell?, h1] at hc
theorem addN_snoc (S : List UInt8 → Bool) (l : List (List UInt8)) (s : List UInt8) : (fun t => addN S l t || t == s) = addN S (l ++ [s]) := by
  funext t
  unfold addN
  rw [Bool.or_assoc]
  congr 1
  rw [Bool.eq_iff_iff]
  simp
theorem addN_nil (S : List UInt8 → Bool) : addN S [] = S := by
  funext t
  simp [addN]
theorem addN_mem (S : List UInt8 → Bool) (l l' : List (List UInt8)) (h : ∀ s, s ∈ l ↔ s ∈ l') : addN S l = addN S l' := by
  funext t
  unfold addN
  congr 1
  rw [Bool.eq_iff_iff, List.contains_iff_mem, List.contains_iff_mem]
  exact h t
theorem Two.cell {b : Nat} {A B : World} (h : Two b b A B) {g i : Nat} {u : Value} (hc : A.cell? ⟨g, i, none⟩ = some u) (hg : g ≠ b) : B.cell? ⟨g, i, none⟩ = some u := by
  rw [World.cell?_of_block (w' := B) (w := A) (h.block g (World.block_lt_of_cell? _ _ hc) hg hg)]
  exact hc
theorem Two.turned {b : Nat} {A B : World} (ht : A.mapTurned B b) : Two b b A B := by
  obtain ⟨h1, h2, h3, h4, h5⟩ := turned_two ht
  exact ⟨h1, h2, h3, by omega, fun k _ hk _ => h5 k hk⟩
set_option maxHeartbeats 8000000 in
set_option maxRecDepth 100000 in
theorem RNeeds_any (p : Ld.Prg) (v sv : Value) (names : List (List UInt8)) (w : World) (h : IsRPrg w p v) (hck : Ld.check p = none) (hs : Strs w sv (names.map toBA)) (hsl : ∀ s, s ∈ names → s.length ≤ maxLen) (hnl : names.length ≤ 1000) (hL : RLaid w) :
    Calls Tryz.prog 11 #[v, sv] w fun e w' => ∃ xv, e = .returned xv ∧ w'.ownsRow w.heap.size 3 1 xv (needF (roundsS p (fun t => names.contains t) p.names.length) p.names p.names.length).length ((needF (roundsS p (fun t => names.contains t) p.names.length) p.names p.names.length).map intV) ∧ Below w.heap.size w w' := by
  have HCR := hide (Ld.check_rungs p hck)
  have h12 := (Ld.check_names p hck).1
  have h40 := (Ld.check_names p hck).2.1
  have HNN := hide (Ld.check_names p hck).2.2.1
  obtain ⟨nv, rv, rfl, hn, hr⟩ := h
  have HNA := hide hn
  have HRA := hide hr
  obtain ⟨na, nc, rfl, _⟩ := hn.slice
  obtain ⟨ra, rc, rfl, _⟩ := hr.slice
  obtain ⟨sa, sc, rfl, hsl6, hcs⟩ := Strs.at_ hs
  have HCS := hide hcs
  have HSL := hide hsl
  have HL := hide hL
  obtain ⟨n, hnn⟩ : ∃ n, n = p.names.length := ⟨_, rfl⟩
  obtain ⟨q, hqq⟩ : ∃ q, q = p.rungs.length := ⟨_, rfl⟩
  obtain ⟨u, huu⟩ : ∃ u, u = names.length := ⟨_, rfl⟩
  have HN := hide hnn
  have HQ := hide hqq
  have HU := hide huu
  rw [← hnn] at HNA h12 ⊢
  rw [← hqq] at HRA h40 ⊢
  rw [← huu] at hnl hsl6 ⊢
  clear hn hr hnn hqq huu hck hs hsl hcs hL
  obtain ⟨wA, hwA⟩ : ∃ wA, wA = (w.alloc (.cells #[.slice na n nc, .slice ra q rc] 30)).alloc (.map #[] 0) := ⟨_, rfl⟩
  have hbA : Below w.heap.size w wA := by rw [hwA]; exact ((Below.refl _ _).alloc (Nat.le_refl _) _).alloc (by simp) _
  have hsA : wA.heap.size = w.heap.size + 1 + 1 := by rw [hwA]; simp
  have hA0 : wA.heap[w.heap.size]? = some (.cells #[.slice na n nc, .slice ra q rc] 30 (0, 0)) := by rw [hwA]; exact (Below.heap_alloc _ _ _ (by simp)).trans (heap_alloc_new _ _)
  have hM0 : SM wA (w.heap.size + 1) 0 (fun _ => false) := by
    rw [hwA]
    have := SM.made (w.alloc (.cells #[.slice na n nc, .slice ra q rc] 30))
    rw [World.size_alloc] at this
    exact this
  obtain ⟨mb, hmb⟩ : ∃ mb, mb = w.heap.size + 1 := ⟨_, rfl⟩
  rw [← hmb] at hM0
  have HM0 := hide hM0
  have HLOW : Hid (∀ W, Two mb mb wA W → Below w.heap.size w W ∧ W.cell? ⟨w.heap.size, 0, none⟩ = some (.slice na n nc) ∧ W.cell? ⟨w.heap.size, 1, none⟩ = some (.slice ra q rc)) := by
    intro W hW
    have e0 := (hW.block w.heap.size (by omega) (by omega) (by omega)).trans hA0
    refine ⟨⟨hW.os.trans hbA.os, hW.tape.trans hbA.tape, hW.output.trans hbA.output, Nat.le_trans hbA.size hW.size, fun k hk => (hW.block k (by omega) (by omega) (by omega)).trans (hbA.block k hk)⟩, by rw [Lib.cell_of_heap e0]; rfl, by rw [Lib.cell_of_heap e0]; rfl⟩
  have HWA := hide hwA
  clear hwA hbA hA0 hM0
  have hmk := @run_makeMap Tryz.prog
  have HMB := hide hmb
  clear hmb
  go_enter Tryz.func11, Tryz.ntmps11
  go_wp2_with fail
  rw [← HWA.out, ← HMB.out]
  clear HWA HMB hmk
  go_loopw [18] (fun i wr => ∃ k : Nat, k ≤ u ∧ i = .int .i64 (k : Int) ∧ Hid (SM wr mb k (fun t => (names.take k).contains t)) ∧ Hid (Two mb mb wA wr)) (fun i _ => u - (intOf i).toNat)
  case atStart => exact ⟨0, Nat.zero_le _, rfl, HM0.out, Two.refl _ _ _⟩
  case round =>
    obtain ⟨k, hk, rfl, HSM, HTW⟩ := hrel
    generalize wr = wo at *
    obtain ⟨hlow, b0, b1⟩ := HLOW.out wo HTW.out
    by_cases hlt : k < u
    · have hkl : k < names.length := by rw [← HU.out]; exact hlt
      obtain ⟨gs, o, rfl, hsc, hcj⟩ := HCS.out k names[k] (List.getElem?_eq_getElem hkl)
      have hcr : wo.cell? ⟨gs, o + k, none⟩ = some (.string ⟨names[k].toArray⟩) := (hlow.cell (World.block_lt_of_cell? _ _ hcj)).trans hcj
      have hlk := HSL.out _ (List.getElem_mem hkl)
      have HTK : Hid ((fun t => (names.take k).contains t || t == names[k]) = fun t => (names.take (k + 1)).contains t) := by
        show _ = _
        funext t
        rw [List.take_succ_eq_append_getElem hkl, Bool.eq_iff_iff, Bool.or_eq_true, List.contains_iff_mem, List.contains_iff_mem, List.mem_append, List.mem_singleton, beq_iff_eq]
      rw [← HU.out] at hsc
      generalize names[k] = s at *
      obtain ⟨w3, hrun, hsm, htr⟩ := HSM.out.put (by unfold maxLen; omega) s hlk
      rw [HTK.out] at hsm
      have HSM3 := hide hsm
      have HTW3 := hide (HTW.out.trans (Two.turned htr))
      clear hcj hlow hsm htr
      go_wp2_with fail
      go_roundw
      case rel => exact ⟨k + 1, by omega, by go_num, HSM3.out, HTW3.out⟩
      case measure => simp [intOf]; omega
    · obtain rfl : u = k := by omega
      have HS0 : Hid (SM wo mb 1000 (fun t => names.contains t)) := by
        have h1 := HSM.out
        rw [show names.take u = names by rw [HU.out, List.take_length]] at h1
        exact h1.more hnl
      have hwo : w.heap.size < wo.heap.size := by have := HTW.out.size; omega
      clear hlow
      go_wp2_with fail
      go_loopw [28] (fun i wr => ∃ r : Nat, r ≤ n ∧ i = .int .i64 (r : Int) ∧ Hid (SM wr mb (1000 + r * 100000000) (roundsS p (fun t => names.contains t) r)) ∧ Hid (Two mb mb wA wr)) (fun i _ => n - (intOf i).toNat)
      case atStart => exact ⟨0, Nat.zero_le _, rfl, HS0.out.more (by omega), HTW.out⟩
      case round =>
        obtain ⟨r, hr, rfl, HSM2, HTW2⟩ := hrel
        generalize wr = wp at *
        obtain ⟨hlow2, d0, d1⟩ := HLOW.out wp HTW2.out
        have hwp : w.heap.size < wp.heap.size := by have := HTW2.out.size; omega
        by_cases hlt2 : r < n
        · clear hlow2
          have HRO : Hid (p.rungs.foldl rungS (roundsS p (fun t => names.contains t) r) = roundsS p (fun t => names.contains t) (r + 1)) := rfl
          generalize roundsS p (fun t => names.contains t) r = S at *
          go_wp2_with fail
          go_loopw [33] (fun i wr => ∃ k : Nat, k ≤ q ∧ i = .int .i64 (k : Int) ∧ Hid (SM wr mb (1000 + r * 100000000 + k * 2000000) ((p.rungs.take k).foldl rungS S)) ∧ Hid (Two mb mb wA wr)) (fun i _ => q - (intOf i).toNat)
          case atStart => exact ⟨0, Nat.zero_le _, rfl, HSM2.out.more (by omega), HTW2.out⟩
          case round =>
            obtain ⟨k, hk, rfl, HSM3, HTW3⟩ := hrel
            generalize wr = wq at *
            obtain ⟨hlow3, e0, e1⟩ := HLOW.out wq HTW3.out
            by_cases hlt3 : k < q
            · have hkl : k < p.rungs.length := by rw [← HQ.out]; exact hlt3
              obtain ⟨rg, hrg0⟩ : ∃ rg, rg = p.rungs[k] := ⟨_, rfl⟩
              have hrm : rg ∈ p.rungs := by rw [hrg0]; exact List.getElem_mem hkl
              have HTS : Hid ((p.rungs.take (k + 1)).foldl rungS S = rungS ((p.rungs.take k).foldl rungS S) rg) := by
                show _ = _
                rw [List.take_succ_eq_append_getElem hkl, List.foldl_append, ← hrg0]
                rfl
              obtain ⟨g, hga, hcap, hrg⟩ : ∃ g, ra = some ⟨g, 0, none⟩ ∧ q ≤ rc ∧ RRungAt wq g k rg := by
                rcases HRA.out.below hlow3 with ⟨h0, _⟩ | ⟨g, cap, h1, h2, h3, h4⟩
                · rw [h0] at hkl; simp at hkl
                · simp only [Value.slice.injEq] at h1
                  exact ⟨g, h1.1, by rw [h1.2.2, HQ.out]; exact h2, h4 k rg (by rw [hrg0]; exact List.getElem?_eq_getElem hkl)⟩
              subst hga
              obtain ⟨x, hx, hxk⟩ : ∃ x, rg.cond = some x ∧ Ld.known p.names x = true := by
                obtain ⟨_, _, _, _, x, h1, h2⟩ := HCR.out rg hrm
                exact ⟨x, h1, h2⟩
              obtain ⟨v, c0, c1, c2, c3, _, c5⟩ := hrg
              rw [hx] at c5
              obtain ⟨gx, rfl, hix, hxs, _⟩ := c5
              obtain ⟨ml, hml⟩ := (HL.out.below hlow3).len
              have HNR : Hid (namesR rg = x.named true) := by show _ = _; unfold namesR; rw [hx]
              have HLN : Hid (∀ s, s ∈ x.named true → s.length ≤ maxLen) := fun s hs => by
                unfold Ld.known at hxk
                rw [List.all_eq_true] at hxk
                have hk0 : 0 ≤ Ld.number p.names s := by simpa using hxk s hs
                obtain ⟨y, hy, rfl⟩ := known_mem hk0
                obtain ⟨i, hi, rfl⟩ := List.getElem_of_mem hy
                rcases HNA.out with ⟨h0, _⟩ | ⟨g', cap, h1, h2, h3, h4⟩
                · rw [h0] at hi; simp at hi
                · exact (h4 i _ (List.getElem?_eq_getElem hi)).2.2.2.1
              obtain ⟨kd, rn, cd⟩ := rg
              simp only at c0 c1 c3 hx
              subst hx
              have hwq : w.heap.size < wq.heap.size := by have := HTW3.out.size; omega
              have hlk := HSM3.out.look rn c3
              have HIX := hide hix
              obtain ⟨wB, hwB⟩ : ∃ wB, wB = wq.alloc (.cells #[.int .i64 kd, .string ⟨rn.toArray⟩, .pointer (some ⟨gx, 0, none⟩)] 72) := ⟨_, rfl⟩
              have hbB : Below wq.heap.size wq wB := by rw [hwB]; exact (Below.refl _ _).alloc (Nat.le_refl _) _
              have hlkB := (HSM3.out.below hbB).look rn c3
              have HNC := hide (RNames_any _ x gx ml wB (IsRx.stay (Stay.below hbB) (fun _ h => h) x gx hix) hxs (Nat.lt_of_lt_of_le (World.block_lt_of_cell? _ _ hml) hbB.size) ((hbB.cell (World.block_lt_of_cell? _ _ hml)).trans hml))
              rw [hwB] at HNC hlkB
              have HWB := hide hwB
              have HBB := hide hbB
              generalize hG : (p.rungs.take k).foldl rungS S = G at *
              have HTB := hide (HTW3.out.trans (Two.below hbB))
              clear hrg0 hrm hix hbB hwB hlow3 hlk hml hG hxk
              cases hgn : G rn with
              | false =>
                rw [hgn] at hlkB
                have HNX : Hid ((p.rungs.take (k + 1)).foldl rungS S = G) := by show _ = _; rw [HTS.out]; unfold rungS; simp only [hgn]; rfl
                clear hgn
                go_wp2_with fail
                go_roundw
                case rel => exact ⟨k + 1, by omega, by go_num, by rw [HNX.out, ← HWB.out]; exact (HSM3.out.below HBB.out).more (by omega), by rw [← HWB.out]; exact HTB.out⟩
                case measure => simp [intOf]; omega
              | true =>
                rw [hgn] at hlkB
                have HNX : Hid ((p.rungs.take (k + 1)).foldl rungS S = addN G (x.named true)) := by show _ = _; rw [HTS.out]; unfold rungS; simp only [hgn, if_true]; rw [HNR.out]
                clear hgn
                go_wp2_with fail
                refine HNC.out.mono ?_
                rintro e w5 ⟨sv5, rfl, hsv, hb5⟩
                rw [← HWB.out] at hb5
                have HSM5 := hide ((HSM3.out.below HBB.out).below hb5)
                have HTW5 := hide (HTB.out.trans (Two.below hb5))
                have HMO : Hid (∀ t, t ∈ ordered (x.named true) ↔ t ∈ x.named true) := fun t => mem_ordered _ _
                generalize ordered (x.named true) = os at *
                obtain ⟨oa, oc, rfl, hol, hoc⟩ := Strs.at_ hsv
                have HOC := hide hoc
                obtain ⟨z, hz⟩ : ∃ z, z = os.length := ⟨_, rfl⟩
                have HZ := hide hz
                rw [← hz] at hol ⊢
                clear hsv hoc hz hb5 HNC
                go_wp2_with fail
                go_loopw [45] (fun i wr => ∃ j : Nat, j ≤ z ∧ i = .int .i64 (j : Int) ∧ Hid (SM wr mb (1000 + r * 100000000 + k * 2000000 + j) (addN G (os.take j))) ∧ Hid (Two mb mb w5 wr)) (fun i _ => z - (intOf i).toNat)
                case atStart => exact ⟨0, Nat.zero_le _, rfl, by rw [List.take_zero, addN_nil]; exact HSM5.out.more (by omega), Two.refl _ _ _⟩
                case round =>
                  obtain ⟨j, hj, rfl, HSM4, HTW4⟩ := hrel
                  by_cases hlt4 : j < z
                  · have hjl : j < os.length := by rw [← HZ.out]; exact hlt4
                    obtain ⟨gs, o, hoa, hosc, hcj⟩ := HOC.out j os[j] (List.getElem?_eq_getElem hjl)
                    subst hoa
                    have hcr : wr.cell? ⟨gs, o + j, none⟩ = some (.string ⟨os[j].toArray⟩) := Two.cell HTW4.out hcj (HSM5.out.cells hcj)
                    have hlj := HLN.out _ ((HMO.out _).1 (List.getElem_mem hjl))
                    have HTK : Hid (os.take (j + 1) = os.take j ++ [os[j]]) := List.take_succ_eq_append_getElem hjl
                    rw [← HZ.out] at hosc
                    generalize os[j] = s at *
                    obtain ⟨w6, hrun, hsm, htr⟩ := HSM4.out.put (by unfold maxLen; omega) s hlj
                    rw [addN_snoc, ← HTK.out] at hsm
                    have HSM6 := hide hsm
                    have HTW6 := hide (HTW4.out.trans (Two.turned htr))
                    clear hcj hsm htr
                    go_wp2_with fail
                    go_roundw
                    case rel => exact ⟨j + 1, by omega, by go_num, HSM6.out.more (by omega), HTW6.out⟩
                    case measure => simp [intOf]; omega
                  · obtain rfl : z = j := by omega
                    have HF4 : Hid (SM wr mb (1000 + r * 100000000 + (k + 1) * 2000000) ((p.rungs.take (k + 1)).foldl rungS S)) := by
                      have h1 := HSM4.out
                      rw [show os.take z = os by rw [HZ.out, List.take_length], addN_mem G os (x.named true) HMO.out, ← HNX.out] at h1
                      exact h1.more (by omega)
                    have HTF := hide (HTW5.out.trans HTW4.out)
                    go_wp2_with fail
                    go_roundw
                    case rel => exact ⟨k + 1, by omega, by go_num, HF4.out, HTF.out⟩
                    case measure => simp [intOf]; omega
            · obtain rfl : q = k := by omega
              have HF : Hid (SM wq mb (1000 + (r + 1) * 100000000) (roundsS p (fun t => names.contains t) (r + 1))) := by
                have h1 := HSM3.out
                have e := HQ.out
                rw [show p.rungs.take q = p.rungs by rw [HQ.out, List.take_length], HRO.out] at h1
                exact h1.more (by omega)
              clear hlow3
              go_wp2_with fail
              go_roundw
              case rel => exact ⟨r + 1, by omega, by go_num, HF.out, HTW3.out⟩
              case measure => simp [intOf]; omega
        · obtain rfl : n = r := by omega
          have HSN := hide (HSM2.out.below (Below.refl _ _))
          have HLW := hide hlow2
          obtain ⟨i0, hi0, hz0, hz1, hz2⟩ := info_parts Tryz.infoInt
          obtain ⟨f, hf⟩ : ∃ f, f = roundsS p (fun t => names.contains t) n := ⟨_, rfl⟩
          rw [← hf] at HSN
          have HFF := hide hf
          clear hf
          have HNMS : Hid (∀ i (hi : i < n) W, Below wp.heap.size wp W → ∃ g, na = some ⟨g, 0, none⟩ ∧ n ≤ nc ∧ NameAt W g i (p.names.getD i ⟨[], 0, 0⟩)) := by
            intro i hi W hW
            have hip : i < p.names.length := by rw [← HN.out]; exact hi
            rcases (HNA.out.below HLW.out).below hW with ⟨h0, _⟩ | ⟨g, cap, h1, h2, h3, h4⟩
            · rw [h0] at hip; simp at hip
            · simp only [Value.slice.injEq] at h1
              refine ⟨g, h1.1, by rw [h1.2.2, HN.out]; exact h2, ?_⟩
              rw [List.getD_eq_getElem?_getD, List.getElem?_eq_getElem hip, Option.getD_some]
              exact h4 i _ (List.getElem?_eq_getElem hip)
          clear hlow2
          go_wp2_with fail
          go_loopw [12, 57] (fun xv i wr => ∃ k : Nat, k ≤ n ∧ i = .int .i64 (k : Int) ∧ Hid (wr.ownsRow wp.heap.size 3 1 xv (needF f p.names k).length ((needF f p.names k).map intV)) ∧ Hid (Below wp.heap.size wp wr)) (fun _ i _ => n - (intOf i).toNat)
          case atStart => exact ⟨0, Nat.zero_le _, rfl, ⟨rfl, .inl ⟨rfl, rfl⟩⟩, Below.refl _ _⟩
          case round =>
            obtain ⟨k, hk, rfl, HOW, HBR⟩ := hrel
            obtain ⟨xa, xc, rfl⟩ := own_slice HOW.out
            have hkl := needF_len f p.names k
            have hzr := HBR.out.size
            by_cases hlt5 : k < n
            · obtain ⟨gn, hga, hcn, c0, c1, c2, c3, _, _⟩ := HNMS.out k hlt5 wr HBR.out
              subst hga
              have HTS := hide (needF_succ f p.names k)
              generalize p.names.getD k ⟨[], 0, 0⟩ = y at *
              obtain ⟨nm, kd, ct⟩ := y
              simp only at c0 c1 c2 c3
              obtain ⟨wB, hwB⟩ : ∃ wB, wB = wr.alloc (.cells #[.string ⟨nm.toArray⟩, .int .i64 kd, .int .i64 ct] 58) := ⟨_, rfl⟩
              have hbB : Below wr.heap.size wr wB := by rw [hwB]; exact (Below.refl _ _).alloc (Nat.le_refl _) _
              have hlk := ((HSN.out.below HBR.out).below hbB).look nm c3
              have hbP : Below wp.heap.size wp wB := HBR.out.trans (hbB.mono hzr)
              have hzB : wB.heap.size = wr.heap.size + 1 := by rw [hwB]; simp
              rw [hwB] at hlk
              have HBP := hide hbP
              have HOB : Hid (wB.ownsRow wp.heap.size 3 1 (.slice xa (needF f p.names k).length xc) (needF f p.names k).length ((needF f p.names k).map intV)) := by
                show World.ownsRow _ _ _ _ _ _ _
                rw [hwB]
                exact HOW.out.alloc _
              have HWB := hide hwB
              clear hbB hbP hwB
              cases hfn : f nm with
              | false =>
                rw [hfn] at hlk
                have HNX : Hid (needF f p.names (k + 1) = needF f p.names k) := by show _ = _; rw [HTS.out]; simp [hfn]
                clear hfn
                go_wp2_with fail
                go_roundw
                case rel => exact ⟨k + 1, by omega, by go_num, by rw [HNX.out, ← HWB.out]; exact HOB.out, by rw [← HWB.out]; exact HBP.out⟩
                case measure => simp [intOf]; omega
              | true =>
                rw [hfn] at hlk
                have HNX : Hid (needF f p.names (k + 1) = needF f p.names k ++ [k]) := by show _ = _; rw [HTS.out]; simp [hfn]
                clear hfn
                obtain ⟨L, hL⟩ : ∃ L, L = (needF f p.names k).length := ⟨_, rfl⟩
                have HLL := hide hL
                rw [← hL] at HOB hkl
                rw [← hL]
                have HOWN : Hid (∀ o, (wB.alloc o).ownsRow wp.heap.size 3 1 (.slice xa L xc) L ((needF f p.names k).map intV)) := fun o => HOB.out.alloc o
                have HONE : Hid (∀ u ∈ [Value.int .i64 (k : Int)], u.oneCell' = true) := by intro u hu; simp at hu; subst hu; rfl
                have HFIN : Hid (∀ (o : Obj) (g cap : Nat) (wC : World), wC.ownsRow wp.heap.size 3 1 (.slice (some ⟨g, 0, none⟩) (L + 1) cap) (L + 1) ((needF f p.names k).map intV ++ [.int .i64 (k : Int)]) → (wB.alloc o).grownBy wC (Value.slice xa L xc).ownBlock →
                    wC.ownsRow wp.heap.size 3 1 (.slice (some ⟨g, 0, none⟩) (L + 1) cap) (needF f p.names (k + 1)).length ((needF f p.names (k + 1)).map intV) ∧ Below wp.heap.size wp wC) := by
                  intro o g cap wC h1 h2
                  have h3 : Below wp.heap.size wp wC := (HBP.out.alloc HBP.out.size o).grown h2 (by simp; omega) (fun i e => ((HOWN.out o).lt i e).1)
                  refine ⟨?_, h3⟩
                  rw [HNX.out, List.length_append, List.map_append, ← HLL.out]
                  exact h1
                have HNEW : Hid (∀ o, (wB.alloc o).heap[wr.heap.size + 1]? = some o) := fun o => by have h3 := heap_alloc_new wB o; rw [hzB] at h3; exact h3
                rw [HWB.out] at HOWN HFIN HNEW
                clear hL
                go_wp2_with (at_builtin; refine wpList_append_lies _ rfl (.tmp 66) (.tmp 68) 34 rfl wp.heap.size 3 i0 _ 1 8 Tryz.underlying34 hi0 hz0 hz1 hz2 rfl (by decide) (.slice xa L xc) L ((needF f p.names k).map intV) rfl (HOWN.out _) ⟨wr.heap.size + 1, 0, none⟩ 1 1 [.int .i64 (k : Int)] rfl rfl (World.news_of_block (HNEW.out _)) HONE.out (by decide) (by unfold maxLen; omega) (by omega) (by simp; omega) (wr.heap.size + 1 + 1) (by simp) ?_; intro g5 cap5 wC hown hgrow hat hltg; obtain ⟨how, hbl⟩ := HFIN.out _ g5 cap5 wC hown hgrow; have HOW5 := hide how; have HBL5 := hide hbl; clear how hbl hown hgrow hat)
                go_roundw
                case rel => exact ⟨k + 1, by omega, by go_num, HOW5.out, HBL5.out⟩
                case measure => simp [intOf]; omega
            · obtain rfl : n = k := by omega
              have HF := hide (HLW.out.trans (HBR.out.mono HLW.out.size))
              have hzw := HLW.out.size
              have HOF : Hid (wr.ownsRow w.heap.size 3 1 (.slice xa (needF f p.names n).length xc) (needF f p.names n).length ((needF f p.names n).map intV)) := by
                refine ⟨HOW.out.1, ?_⟩
                rcases HOW.out.2 with h1 | ⟨g, cap, cur, h1, h2, h3⟩
                · exact .inl h1
                · exact .inr ⟨g, cap, cur, h1, by omega, h3⟩
              obtain ⟨L, hL⟩ : ∃ L, L = (needF f p.names n).length := ⟨_, rfl⟩
              rw [← hL] at HOF ⊢
              have HLL := hide hL
              clear hL HOW
              go_wp2_with fail
              go_ret
              exact ⟨.slice xa L xc, rfl, by rw [← HFF.out, ← HLL.out]; exact HOF.out, HF.out⟩
end Sl
end
section
open Go.RowKit
namespace Sl
/-- names that are laid, as the document's package does -/
structure QN (wS : World) (b : Nat) (ns : List Ld.Nme) (nv : Value) (W : World) : Prop where
  low : Below b wS W
  blk : W.heap[b]? = some (.cells #[nv, .slice none 0 0] 30 (0, 0))
  on : W.ownsRow (b + 1) 58 3 nv ns.length (ns.flatMap nmCells)
  bn : ∀ n, n ∈ ns → n.name.length ≤ maxLen ∧ I64 n.kind ∧ I64 n.count
theorem QN.lt {wS : World} {b : Nat} {ns : List Ld.Nme} {nv : Value} {W : World} (h : QN wS b ns nv W) : b < W.heap.size := (Array.getElem?_eq_some_iff.1 h.blk).1
theorem QN.below {wS : World} {b : Nat} {ns : List Ld.Nme} {nv : Value} {W W' : World} (h : QN wS b ns nv W) (hb : Below W.heap.size W W') : QN wS b ns nv W' :=
  ⟨h.low.trans (hb.mono (Nat.le_of_lt h.lt)), (hb.block _ h.lt).trans h.blk, h.on.kept (row := none) (grown_below hb) (by cases nv.ownBlock <;> simp), h.bn⟩
theorem QN.put {wS : World} {b : Nat} {ns : List Ld.Nme} {nv : Value} {W wC : World} (h : QN wS b ns nv W) (n : Ld.Nme) (hn : n.name.length ≤ maxLen ∧ I64 n.kind ∧ I64 n.count) (g cap : Nat) (hown : wC.ownsRow (b + 1) 58 3 (.slice (some ⟨g, 0, none⟩) (ns.length + 1) cap) (ns.length + 1) (ns.flatMap nmCells ++ nmCells n)) (hg : W.grownBy wC nv.ownBlock) :
    (wC.cell? ⟨b, 0, none⟩ = some nv ∧ wC.frozen? ⟨b, 0, none⟩ = false) ∧ QN wS b (ns ++ [n]) (.slice (some ⟨g, 0, none⟩) (ns.length + 1) cap) (wC.setCell ⟨b, 0, none⟩ (.slice (some ⟨g, 0, none⟩) (ns.length + 1) cap)) := by
  have hbk : wC.heap[b]? = some (.cells #[nv, .slice none 0 0] 30 (0, 0)) := (hg.block b h.lt (fun e => by have := (h.on.lt b e.symm).1; omega)).trans h.blk
  obtain ⟨k1, k2, k3, k4⟩ := grown_store (b := b) (q := b + 1) (i := 0) (v' := .slice (some ⟨g, 0, none⟩) (ns.length + 1) cap) h.blk h.low hg (fun g e => (h.on.lt g e).1) (by omega) h.lt
  refine ⟨⟨by rw [Lib.cell_of_heap hbk]; rfl, Lib.frozen_of_heap hbk 0⟩, k3, by simpa using k1, ?_, ?_⟩
  · have e1 : (ns ++ [n]).length = ns.length + 1 := by simp
    have e2 : (ns ++ [n]).flatMap nmCells = ns.flatMap nmCells ++ nmCells n := by simp
    rw [e1, e2]
    exact hown.kept k4 (.inr (by intro e; have := (hown.lt g rfl).1; simp only [Value.ownBlock, Option.some.injEq] at e; omega))
  · intro m hm
    rw [List.mem_append] at hm
    rcases hm with hm | hm
    · exact h.bn m hm
    · simp at hm; subst hm; exact hn
theorem QN.rungs {wS : World} {b : Nat} {ns : List Ld.Nme} {nv : Value} {W : World} (h : QN wS b ns nv W) (hl : ns.length ≤ 1000000) : QR wS b ns [] nv (.slice none 0 0) W := by
  refine ⟨h.low, h.blk, ?_, ⟨rfl, .inl ⟨rfl, rfl⟩⟩, (fun r hr => by cases hr), fun _ => rfl⟩
  rcases h.on.2 with ⟨rfl, h0⟩ | ⟨g, cap, cur, rfl, _, hcur, hcap, _, _, htk⟩
  · exact .inl ⟨List.length_eq_zero_iff.1 h0, _, _, rfl⟩
  · refine .inr ⟨g, cap, rfl, hcap, hl, fun i n hi => ?_⟩
    have hc := fun j hj => flat3 nmCells (fun _ => rfl) ns i n hi j hj
    exact ⟨row_cell hcur htk (hc 0 (by omega)), row_cell hcur htk (hc 1 (by omega)), row_cell hcur htk (hc 2 (by omega)), h.bn n (List.mem_of_getElem? hi)⟩
/-- the names of the numbers -/
def nmL (ns : List Ld.Nme) (l : List Nat) : List (List UInt8) := l.map fun i => (ns.getD i ⟨[], 0, 0⟩).name
/-- the program with what f tells of -/
def partF (p : Ld.Prg) (f : List UInt8 → Bool) : Ld.Prg := ⟨p.names.filter fun n => n.kind == 1 || f n.name, p.rungs.filter fun r => f r.name⟩
/-- what is marked, and what rounds come to, cut the same -/
theorem partF_is (p : Ld.Prg) (hck : Ld.check p = none) (names : List (List UInt8)) (m : List Bool) (hm : Needed p names m) : partF p (fun s => (nmL p.names (needF (roundsS p (fun t => names.contains t) p.names.length) p.names p.names.length)).contains s) = part p m := by
  have key : ∀ s, 0 ≤ Ld.number p.names s → (nmL p.names (needF (roundsS p (fun t => names.contains t) p.names.length) p.names p.names.length)).contains s = Sc.told p.names m s := by
    intro s hs
    rw [Bool.eq_iff_iff, hm.iff_, ← rounds_all p hck names s, List.contains_iff_mem]
    unfold nmL needF
    rw [List.mem_map]
    constructor
    · rintro ⟨i, hi, rfl⟩
      exact (List.mem_filter.1 hi).2
    · intro hr
      rcases Ld.number_cases p.names s with ⟨h1, _⟩ | ⟨k, hk, h1, h2, _⟩
      · omega
      · have e : (p.names.getD k ⟨[], 0, 0⟩).name = s := by simp [hk, h2]
        exact ⟨k, List.mem_filter.2 ⟨List.mem_range.2 hk, by rw [e]; exact hr⟩, e⟩
  unfold partF part
  congr 1
  · refine List.filter_congr fun n hn => ?_
    have h1 := key n.name (mem_known hn)
    simp only [h1]
    rw [Bool.or_comm]
  · refine List.filter_congr fun r hr => ?_
    exact key r.name (Ld.check_rungs p hck r hr).2.2.1
/-- and tell the same numbers -/
theorem needs_same (p : Ld.Prg) (hck : Ld.check p = none) (names : List (List UInt8)) (m : List Bool) (hm : Needed p names m) : needF (roundsS p (fun t => names.contains t) p.names.length) p.names p.names.length = (List.range p.names.length).filter fun i => m.getD i false := by
  unfold needF
  refine List.filter_congr fun i hi => ?_
  have hi2 := List.mem_range.1 hi
  have e : p.names.getD i ⟨[], 0, 0⟩ = p.names[i] := by simp [hi2]
  have h1 := Rf.number_self p hck i hi2
  rw [e, Bool.eq_iff_iff, rounds_all p hck names, ← hm.iff_, Rf.told_at _ _ _ (by omega), h1, Int.toNat_natCast]
end Sl
end
end Go.Proofs.YtjfgfcajmkbmeaaGreatDoor
