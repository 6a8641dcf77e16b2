/-
  The walk of package reach's grow. The walks of package reach's Stays, Comes and Forces.
-/
import Derived.Test.YtkfikffnljnepaaGreatDoorRcCloneAll
namespace Go.Proofs.YtkfikffnljnepaaGreatDoor
section
open Go.RowKit
set_option maxHeartbeats 8000000 in
set_option maxRecDepth 100000 in
theorem grow_any (bm S I gN : Nat) (next : Nat → List Nat) (uN : List Nat) (gi cp : Nat) (rest : List Value) (l : List Bool) (f : Value) (E : (Nat → Prop) → Nat → Prop) (eB : List Bool → Nat → Bool) (w : World) (h : NextAt w bm S I next gN uN) (hS : S ≤ 4096) (hI : I ≤ 64) (hnl : ∀ s, (next s).length = I) (hnx : ∀ f s, f < S → s ∈ next f → s < S)
    (hl : l.length = S) (hrow : BRow w gi l rest) (hcp : S ≤ cp) (hf : Entering w gi S rest f eB) (hA : Rc.Asks next E) (hit : ∀ (X : Nat → Prop) s, s < S → E X s → ∃ t, t ∈ next s ∧ X t) (heB : ∀ r s, eB r s = true ↔ E (Rc.Has r) s) :
    Calls Tryz.prog 28 #[.pointer (some ⟨bm, 0, none⟩), .slice (some ⟨gi, 0, none⟩) S cp, f] w (Growed w gi S rest E l) := by
  obtain ⟨i0, hi0, hz0, hz1, hz2⟩ := info_parts Tryz.infoInt
  obtain ⟨K, cap, rfl, hent, hcall⟩ := hf
  have hent' : ∀ (args : Array Value) (w : World), (callFunc K args).run Tryz.prog w = .ok (.enter K args) w := hent
  have HC := hide hcall
  have HAH := hide (ahead_any bm S I gN next uN w h hS hI hnl hnx)
  have HROW := hide hrow
  have HA := hide hA
  have HIT := hide hit
  have HEB := hide heB
  have HNX := hide hnx
  have hgl := RowIs.lt hrow
  have HLL := hide hl
  clear h hnl hnx hcall hent hrow hA hit heB
  go_enter Tryz.func28, Tryz.ntmps28
  go_wp2_with fail
  refine HAH.out.mono ?_
  rintro e w1 ⟨gA, vs, rfl, hah, hgA, hb1⟩
  have HAT := hide hah
  have HB1 := hide hb1
  have HR1 := hide (HROW.out.below hb1)
  have hz1' := hb1.size
  have hgi1 : gi < gA := by omega
  have hgAl := hah.top.lt
  clear hah hb1 HAH
  unfold slV
  go_wp2_with fail
  go_loopw [7, 17] (fun fv i wr => ∃ k : Nat, k ≤ S ∧ i = .int .i64 (k : Int) ∧ (∃ a c, fv = .slice a (Rc.insTo l k).length c) ∧ Hid (wr.ownsRow w1.heap.size 3 1 fv (Rc.insTo l k).length ((Rc.insTo l k).map intV)) ∧ Hid (Below w1.heap.size w1 wr)) (fun _ i _ => S - (intOf i).toNat)
  case atStart => exact ⟨0, Nat.zero_le _, rfl, ⟨_, _, rfl⟩, World.ownsRow_nil _ _ _ _, Below.refl _ _⟩
  case round =>
    obtain ⟨k, hk, rfl, ⟨la, lc, rfl⟩, HO, HB⟩ := hrel
    have hle := Rc.insTo_len l k
    by_cases hlt : k < S
    · have hkl : k < l.length := by rw [HLL.out]; exact hlt
      have c0 : wr.cell? ⟨gi, k, none⟩ = some (.bool l[k]) := (HR1.out.below HB.out).cell k _ (List.getElem?_eq_getElem hkl)
      have HSU := hide (Rc.insTo_succ l k)
      have hgd : l.getD k false = l[k] := by simp [hkl]
      rw [hgd] at HSU
      have hq := HB.out.size
      clear hgd
      generalize l[k] = x at *
      generalize hpl : Rc.insTo l k = pl at *
      cases x with
      | true =>
        have HOWN : Hid (∀ o, (wr.alloc o).ownsRow w1.heap.size 3 1 (.slice la pl.length lc) pl.length (pl.map intV)) := fun o => HO.out.alloc o
        have HONE : Hid (∀ u ∈ [Value.int .i64 (k : Int)], u.oneCell' = true) := by
          intro u hu
          simp only [List.mem_cons, List.not_mem_nil, or_false] at hu
          subst hu; rfl
        have HFIN : Hid (∀ (o : Obj) (g cap : Nat) (wC : World), wC.ownsRow w1.heap.size 3 1 (.slice (some ⟨g, 0, none⟩) (pl.length + 1) cap) (pl.length + 1) (pl.map intV ++ [intV k]) → (wr.alloc o).grownBy wC (Value.slice la pl.length lc).ownBlock →
            (wC.ownsRow w1.heap.size 3 1 (.slice (some ⟨g, 0, none⟩) (pl.length + 1) cap) (Rc.insTo l (k + 1)).length ((Rc.insTo l (k + 1)).map intV) ∧ (Rc.insTo l (k + 1)).length = pl.length + 1) ∧ Below w1.heap.size w1 wC) := by
          intro o g cap wC hown hgrow
          rw [HSU.out, if_pos rfl]
          refine ⟨⟨by simpa using hown, by simp⟩, ?_⟩
          exact (HB.out.alloc HB.out.size o).grown hgrow (by simp; omega) (fun j e => (HO.out.lt j e).1)
        go_wp2_with (at_builtin; refine wpList_append_lies _ rfl (.tmp 23) (.tmp 25) 26 rfl w1.heap.size 3 i0 _ 1 8 Tryz.underlying26 hi0 hz0 hz1 hz2 rfl (by decide) (.slice la pl.length lc) pl.length (pl.map intV) rfl (HOWN.out _) ⟨wr.heap.size, 0, none⟩ 1 1 [.int .i64 (k : Int)] rfl rfl (World.news_of_block (heap_alloc_new wr _)) HONE.out (by decide) (by unfold maxLen; omega) (by omega) (by simp; omega) (wr.heap.size + 1) (by simp) ?_; intro g2 cap2 wC hown hgrow hat hltg; obtain ⟨⟨hoC, hlC⟩, hbC⟩ := HFIN.out _ g2 cap2 wC hown hgrow; have HOC := hide hoC; have HLC := hide hlC; have HBC := hide hbC; clear hoC hlC hbC hown hgrow hat)
        go_roundw
        case rel => exact ⟨k + 1, by omega, by go_num, ⟨_, _, by rw [HLC.out]⟩, HOC.out, HBC.out⟩
        case measure => simp [intOf]; omega
      | false =>
        have HSE : Hid (Rc.insTo l (k + 1) = pl) := by show _ = _; rw [HSU.out]; simp
        go_wp2_with fail
        go_roundw
        case rel => exact ⟨k + 1, by omega, by go_num, ⟨_, _, by rw [HSE.out]⟩, by rw [HSE.out]; exact HO.out, HB.out⟩
        case measure => simp [intOf]; omega
    · have hkS : k = S := by omega
      subst hkS
      obtain ⟨wq, rfl⟩ : ∃ wq, wq = wr := ⟨_, rfl⟩
      have HG0 : Hid (Rc.Grow k E next l l (Rc.insTo l k)) := Rc.Grow.start HLL.out HIT.out (Rc.insTo_all l k HLL.out)
      have HG1 : Hid (w.grownBy w1 (some gi)) := grown_of_below _ HB1.out
      have HGW : Hid (w1.grownBy wq (some gi)) := grown_of_below _ HB.out
      have HRQ := hide (HR1.out.below HB.out)
      have hzq := HB.out.size
      go_wp2_with fail
      go_loopw [7] (fun fv wr => ∃ (cur : List Bool) (fresh : List Nat), (∃ a c, fv = .slice a fresh.length c) ∧ Hid (wr.ownsRow w1.heap.size 3 1 fv fresh.length (fresh.map intV)) ∧ Hid (Rc.Grow k E next l cur fresh) ∧ Hid (BRow wr gi cur rest) ∧ Hid (w1.grownBy wr (some gi) ∧ Rc.nF cur + fresh.length ≤ 10000)) (fun fv wr => 2 * falses wr gi + lenV fv)
      case atStart => exact ⟨l, Rc.insTo l k, ⟨_, _, rfl⟩, HO.out, HG0.out, HRQ.out, HGW.out, by have h1 := List.length_filter_le (!·) l; have := HLL.out; unfold Rc.nF; omega⟩
      case round =>
        obtain ⟨cur, fresh, ⟨la, lc, rfl⟩, HO, HG, HR, HW⟩ := hrel
        by_cases h0 : fresh.length = 0
        · have hfr : fresh = [] := List.length_eq_zero_iff.1 h0
          have HGD : Hid (Rc.Grown k E l cur) := by have := HG.out; rw [hfr] at this; exact this.done
          rw [h0]
          clear hfr
          go_wp2_with fail
          go_end0
          exact ⟨rfl, grown_trans HG1.out HW.out.1, cur, HGD.out, HR.out⟩
        obtain ⟨m, hm⟩ : ∃ m, fresh.length = m + 1 := ⟨fresh.length - 1, by omega⟩
        have hml : m < fresh.length := by omega
        have hxe := List.getElem?_eq_getElem hml
        have hlk := HG.out.frin _ (List.mem_of_getElem? hxe)
        have hsplit : fresh = fresh.take m ++ [fresh[m]] := by rw [← List.take_succ_eq_append_getElem hml, List.take_of_length_le (by omega)]
        obtain ⟨gf, hla, hcf, m0⟩ : ∃ g, la = some ⟨g, 0, none⟩ ∧ m + 1 ≤ lc ∧ wr.cell? ⟨g, m, none⟩ = some (intV fresh[m]) := by
          rcases HO.out.2 with ⟨_, h0⟩ | ⟨g, cap, cur, h1, _, hcur, hcap, _, _, htk⟩
          · omega
          · simp only [Value.slice.injEq] at h1
            exact ⟨g, h1.1, by rw [h1.2.2, ← hm]; exact hcap, row_cell hcur htk (by rw [List.getElem?_map, hxe]; rfl)⟩
        subst hla
        unfold intV at m0
        have hah := HAT.out.grown HW.out.1 hgi1 (Nat.lt_succ_self _)
        obtain ⟨v, hv⟩ : ∃ v, vs[fresh[m]]? = some v := ⟨_, List.getElem?_eq_getElem (by rw [hah.len]; exact hlk)⟩
        have t0 := hah.top.cell _ v hv
        have hov := hah.own _ v hv
        obtain ⟨va, vc, rfl⟩ := own_slice hov
        have HV := hide hv
        have HPA : Hid (∀ s, s ∈ Rc.preTo next k 0 fresh[m] ↔ s < k ∧ fresh[m] ∈ next s) := Rc.preTo_all next k fresh[m]
        have hpl := Rc.preTo_len next k 0 fresh[m]
        have hG := HG.out
        rw [hsplit] at hG
        obtain ⟨fr, hfr⟩ : ∃ fr, fr = fresh.take m := ⟨_, rfl⟩
        have hfrl : fr.length = m := by rw [hfr, List.length_take]; omega
        have hO := HO.out
        rw [hm] at hO
        have HO2 := hide (own_pop hO)
        have hmap : (fresh.map intV).take m = fr.map intV := by rw [hfr, List.map_take]
        rw [hmap] at HO2
        rw [← hfr] at hG
        generalize hlast : fresh[m] = last at *
        obtain ⟨pl, hplE⟩ : ∃ pl, pl = Rc.preTo next k 0 last := ⟨_, rfl⟩
        have HPE := hide hplE
        rw [← hplE] at hpl HPA t0 HV
        have HGI := hide (hG.pop (pre := pl) (fun s hs hx => (HPA.out s).2 ⟨hs, hx⟩))
        have hgf := (hO.lt gf rfl).1
        have HMX : Hid (2 * (Rc.nF cur + (rest.filter isF).length) + fr.length + 1 = 2 * falses wr gi + (m + 1) ∧ Rc.nF cur + fr.length ≤ 10000) := by
          show _ ∧ _
          rw [falses_row HR.out, hfrl]
          have := HW.out.2
          exact ⟨by omega, by omega⟩
        have HFL := hide hfrl
        have hm9 : m ≤ 10000 := by have := HW.out.2; omega
        have hwlm : w.heap.size ≤ wr.heap.size := by have := HW.out.1.size; omega
        rw [hm]
        have HWG := hide HW.out.1
        clear hsplit hxe hml hah hv hov hG hO hmap hfr hlast hplE hfrl h0 hm HG HO HW HG0
        rw [← HFL.out] at HO2
        go_wp2_with fail
        obtain ⟨M, hM⟩ : ∃ M, M = 2 * falses wr gi + (m + 1) := ⟨_, rfl⟩
        rw [← hM] at HMX
        have HMM := hide hM
        clear hM t0 m0
        go_loopw [7, 47] (fun fv i wr2 => ∃ (j : Nat) (cur : List Bool) (fresh : List Nat), j ≤ pl.length ∧ i = .int .i64 (j : Int) ∧ (∃ a c, fv = .slice a fresh.length c) ∧ Hid (wr2.ownsRow w1.heap.size 3 1 fv fresh.length (fresh.map intV)) ∧ Hid (Rc.GrowIn k E next l cur fresh pl j) ∧ Hid (BRow wr2 gi cur rest) ∧ Hid (w1.grownBy wr2 (some gi)) ∧ Hid (2 * (Rc.nF cur + (rest.filter isF).length) + fresh.length + 1 ≤ M ∧ Rc.nF cur + fresh.length ≤ 10000)) (fun _ i _ => pl.length - (intOf i).toNat)
        case atStart => exact ⟨0, cur, fr, Nat.zero_le _, rfl, ⟨_, _, by rw [HFL.out]⟩, by rw [← HFL.out]; exact HO2.out, HGI.out, HR.out, HWG.out, by show _ ∧ _; have := HMX.out; exact ⟨by omega, by omega⟩⟩
        case round =>
          obtain ⟨j, cur2, fresh2, hj, rfl, ⟨la2, lc2, rfl⟩, HO, HG, HR, HW, HM⟩ := hrel
          have hah := HAT.out.grown HW.out hgi1 (Nat.lt_succ_self _)
          have hov := hah.own _ _ HV.out
          have t0 := hah.top.cell _ _ HV.out
          have hm2 := HM.out.2
          by_cases hlt : j < pl.length
          · have hje := List.getElem?_eq_getElem hlt
            have hsk := ((HPA.out _).1 (List.mem_of_getElem? hje)).1
            obtain ⟨gv, hva, hcv, m0⟩ : ∃ g, va = some ⟨g, 0, none⟩ ∧ pl.length ≤ vc ∧ wr.cell? ⟨g, j, none⟩ = some (intV pl[j]) := by
              rw [← HPE.out] at hov
              rcases hov.2 with ⟨_, h0⟩ | ⟨g, cap, cur, h1, _, hcur, hcap, _, _, htk⟩
              · omega
              · simp only [Value.slice.injEq] at h1
                exact ⟨g, h1.1, by rw [h1.2.2]; exact hcap, row_cell hcur htk (by rw [List.getElem?_map, hje]; rfl)⟩
            subst hva
            unfold intV at m0
            have hsl : pl[j] < cur2.length := by rw [HG.out.len]; exact hsk
            have hse := List.getElem?_eq_getElem hsl
            have c0 : wr.cell? ⟨gi, pl[j], none⟩ = some (.bool cur2[pl[j]]) := HR.out.cell _ _ hse
            have f0 := RowIs.frozen HR.out pl[j]
            have HCL := hide (HC.out cur2 pl[j] wr (grown_trans HG1.out HW.out) HG.out.len HR.out hsk)
            have HJE := hide hje
            have HSE := hide hse
            have HHAS : Hid (Rc.Has cur2 pl[j] ↔ cur2[pl[j]] = true) := by show _ ↔ _; unfold Rc.Has; rw [List.getD_eq_getElem?_getD, hse]; rfl
            have hgiw : gi < wr.heap.size := World.block_lt_of_cell? _ _ c0
            have hgvw : gv < wr.heap.size := World.block_lt_of_cell? _ _ m0
            generalize hsx : pl[j] = s at *
            generalize cur2[s] = x at *
            have hski : (s : Int) < (k : Int) := by omega
            have hji : (j : Int) < (pl.length : Int) := by omega
            clear hje hse hah hov
            cases x with
            | true =>
              have HGN := hide (HG.out.pass HJE.out (.inl (HHAS.out.2 rfl)))
              go_wp2_with fail
              go_roundw
              case rel => exact ⟨j + 1, cur2, fresh2, by omega, by go_num, ⟨_, _, rfl⟩, HO.out, HGN.out, HR.out, HW.out, HM.out⟩
              case measure => simp [intOf]; omega
            | false =>
              go_wp2_with fail
              refine HCL.out.mono ?_
              rintro e w3 ⟨rfl, hb3⟩
              have HB3 := hide hb3
              have HR3 := hide (HR.out.below hb3)
              have HO3 := hide (own_below HO.out hb3)
              have HW3 := hide (grown_trans HW.out (grown_of_below (some gi) hb3))
              have c3 := (hb3.cell (p := ⟨gi, s, none⟩) hgiw).trans c0
              have f3 := (hb3.frozen (p := ⟨gi, s, none⟩) hgiw).trans f0
              have hz3 := hb3.size
              clear hb3 HCL c0 f0 m0 t0
              cases hex : eB cur2 s with
              | false =>
                have HGN := hide (HG.out.pass HJE.out (.inr (fun he => by have := (HEB.out cur2 s).2 he; rw [hex] at this; cases this)))
                clear hex
                go_wp2_with fail
                go_roundw
                case rel => exact ⟨j + 1, cur2, fresh2, by omega, by go_num, ⟨_, _, rfl⟩, HO3.out, HGN.out, HR3.out, HW3.out, HM.out⟩
                case measure => simp [intOf]; omega
              | true =>
                have HGN := hide (HG.out.put HA.out HJE.out hsk ((HEB.out cur2 s).1 hex))
                have HNF := hide (Rc.nF_set cur2 s HSE.out)
                have hgr : w3.grownBy (w3.setCell ⟨gi, s, none⟩ (.bool true)) (some gi) := ⟨rfl, rfl, rfl, by simp [World.setCell], fun b _ hb => Below.heap_setCell _ _ _ _ (fun e => hb (congrArg some e))⟩
                have hne : (Value.slice la2 fresh2.length lc2).ownBlock = none ∨ (Value.slice la2 fresh2.length lc2).ownBlock ≠ some gi := by
                  cases ho : (Value.slice la2 fresh2.length lc2).ownBlock with
                  | none => exact .inl rfl
                  | some g => exact .inr (fun e => by cases e; have := (HO3.out.lt _ ho).1; omega)
                obtain ⟨wS, hwS⟩ : ∃ wS, wS = w3.setCell ⟨gi, s, none⟩ (.bool true) := ⟨_, rfl⟩
                have hzS : wS.heap.size = w3.heap.size := by rw [hwS]; simp [World.setCell]
                have HOWN : Hid (∀ o, (wS.alloc o).ownsRow w1.heap.size 3 1 (.slice la2 fresh2.length lc2) fresh2.length (fresh2.map intV)) := fun o => by rw [hwS]; exact (HO3.out.kept hgr hne).alloc o
                have HRS : Hid (BRow wS gi (cur2.set s true) rest) := by rw [hwS]; exact HR3.out.set s true hsl
                have HWS : Hid (w1.grownBy wS (some gi)) := by rw [hwS]; exact grown_trans HW3.out hgr
                have HNW : Hid (∀ j u, [Value.int .i64 (s : Int)][j]? = some u → (wS.alloc (.cells #[.int .i64 (s : Int)] 3)).cell? ((⟨w3.heap.size, 0, none⟩ : Addr).add j) = some u) := by
                  rw [← hzS]
                  exact World.news_of_block (cs := #[.int .i64 (s : Int)]) (heap_alloc_new wS _)
                have HONE : Hid (∀ u ∈ [Value.int .i64 (s : Int)], u.oneCell' = true) := by
                  intro u hu
                  simp only [List.mem_cons, List.not_mem_nil, or_false] at hu
                  subst hu; rfl
                have hwz : w1.heap.size ≤ w3.heap.size := by have := HW3.out.size; omega
                have HFIN : Hid (∀ (g cap : Nat) (wC : World), wC.ownsRow w1.heap.size 3 1 (.slice (some ⟨g, 0, none⟩) (fresh2.length + 1) cap) (fresh2.length + 1) (fresh2.map intV ++ [intV s]) → (wS.alloc (.cells #[.int .i64 (s : Int)] 3)).grownBy wC (Value.slice la2 fresh2.length lc2).ownBlock →
                    wC.ownsRow w1.heap.size 3 1 (.slice (some ⟨g, 0, none⟩) (fresh2.length + 1) cap) (fresh2 ++ [s]).length ((fresh2 ++ [s]).map intV) ∧ BRow wC gi (cur2.set s true) rest ∧ w1.grownBy wC (some gi)) := by
                  intro g cap wC hown hgrow
                  have hob : ∀ b, (Value.slice la2 fresh2.length lc2).ownBlock = some b → w1.heap.size ≤ b := fun b e => (HO3.out.lt b e).1
                  refine ⟨by simpa using hown, ?_, ?_⟩
                  · have h1 := RowIs.alloc HRS.out (.cells #[.int .i64 (s : Int)] 3)
                    refine (hgrow.block _ h1.lt (fun e => ?_)).trans h1
                    have := hob _ e.symm
                    omega
                  · refine ⟨hgrow.os.trans HWS.out.os, hgrow.tape.trans HWS.out.tape, hgrow.output.trans HWS.out.output, by have h1 := hgrow.size; have h2 := HWS.out.size; simp at h1; omega, fun b hb hr => ?_⟩
                    have h2 := HWS.out.size
                    rw [hgrow.block b (by simp; omega) (fun e => by have := hob _ e.symm; omega), Below.heap_alloc _ _ _ (by omega)]
                    exact HWS.out.block b hb hr
                rw [hwS] at HOWN HNW HFIN
                clear hgr hne hwS hex
                go_wp2_with (at_builtin; refine wpList_append_lies _ rfl (.tmp 64) (.tmp 66) 26 rfl w1.heap.size 3 i0 _ 1 8 Tryz.underlying26 hi0 hz0 hz1 hz2 rfl (by decide) (.slice la2 fresh2.length lc2) fresh2.length (fresh2.map intV) rfl (HOWN.out _) ⟨w3.heap.size, 0, none⟩ 1 1 [.int .i64 (s : Int)] rfl rfl HNW.out HONE.out (by decide) (by unfold maxLen; omega) (by omega) (by simp [World.setCell]; omega) (w3.heap.size + 1) (by simp [World.setCell]) ?_; intro g2 cap2 wC hown hgrow hat hltg; obtain ⟨hoC, hrC, hwC⟩ := HFIN.out g2 cap2 wC hown hgrow; have HOC := hide hoC; have HRC := hide hrC; have HWC := hide hwC; clear hoC hrC hwC hown hgrow hat)
                go_roundw
                case rel => exact ⟨j + 1, cur2.set s true, fresh2 ++ [s], by omega, by go_num, ⟨some ⟨g2, 0, none⟩, cap2, by rw [List.length_append]; rfl⟩, HOC.out, HGN.out, HRC.out, HWC.out, by
                  show _ ∧ _
                  have := HM.out
                  have := HNF.out
                  rw [List.length_append, List.length_singleton]
                  exact ⟨by omega, by omega⟩⟩
                case measure => simp [intOf]; omega
          · have hjl : j = pl.length := by omega
            have HGE : Hid (Rc.Grow k E next l cur2 fresh2) := by have := HG.out; rw [hjl] at this; exact this.end_
            clear hah hov t0
            go_wp2_with fail
            go_roundw
            case rel => exact ⟨cur2, fresh2, ⟨_, _, rfl⟩, HO.out, HGE.out, HR.out, ⟨HW.out, HM.out.2⟩⟩
            case measure =>
              simp only [lenV]
              rw [falses_row HR.out]
              have := HM.out.1
              have := HMM.out
              omega
end
section
open Go.RowKit
theorem some_eb (next : Nat → List Nat) (r : List Bool) (s : Nat) : ((next s).any (fun t => r.getD t false)) = true ↔ Rc.Some next (Rc.Has r) s := by
  unfold Rc.Some Rc.Has
  rw [List.any_eq_true]
theorem all_eb (next : Nat → List Nat) (r : List Bool) (s : Nat) : (!(next s).any (fun t => !r.getD t false)) = true ↔ Rc.All next (Rc.Has r) s := by
  unfold Rc.All Rc.Has
  rw [Bool.not_eq_true', List.any_eq_false]
  exact ⟨fun h t ht => by have := h t ht; simpa using this, fun h t ht => by have := h t ht; simpa using this⟩
theorem all_hit (next : Nat → List Nat) (I : Nat) (hI : 1 ≤ I) (hnl : ∀ s, (next s).length = I) (X : Nat → Prop) (s : Nat) (h : Rc.All next X s) : ∃ t, t ∈ next s ∧ X t := by
  have hl : 0 < (next s).length := by rw [hnl]; omega
  exact ⟨(next s)[0], List.getElem_mem hl, h _ (List.getElem_mem hl)⟩
/-- what Stays comes to -/
def Stayed (w : World) (S : Nat) (next : Nat → List Nat) (l : List Bool) (e : Ending) (w' : World) : Prop := ∃ g r, e = .returned (.tuple #[.slice (some ⟨g, 0, none⟩) S S, .nilIface]) ∧ Rc.Grown S (Rc.Some next) (Rc.turn l) r ∧ BRow w' g (Rc.turn r) [] ∧ w.heap.size ≤ g ∧ Below w.heap.size w w'
/-- what Comes and Forces come to -/
def Fixed (w : World) (S : Nat) (E : (Nat → Prop) → Nat → Prop) (l : List Bool) (e : Ending) (w' : World) : Prop := ∃ g cp rest r, e = .returned (.tuple #[.slice (some ⟨g, 0, none⟩) S cp, .nilIface]) ∧ S ≤ cp ∧ Rc.Grown S E l r ∧ BRow w' g r rest ∧ w.heap.size ≤ g ∧ Below w.heap.size w w'
set_option maxHeartbeats 4000000 in
set_option maxRecDepth 100000 in
theorem Stays_any (bm S I gN : Nat) (next : Nat → List Nat) (uN : List Nat) (v : Value) (l : List Bool) (w : World) (h : NextAt w bm S I next gN uN) (hS1 : 1 ≤ S) (hS : S ≤ 4096) (hI : I ≤ 64) (_hI1 : 1 ≤ I) (hnl : ∀ s, (next s).length = I) (hnx : ∀ f s, f < S → s ∈ next f → s < S) (hv : Bools w v l) (hl : l.length = S) :
    Calls Tryz.prog 12 #[.pointer (some ⟨bm, 0, none⟩), v] w (Stayed w S next l) := by
  have hmf : ∀ (fn : Fn) (first cap : Array Value) (w : World), (Instr.makeFunc fn first cap).run Tryz.prog w = .ok (.func fn first cap) w := fun _ _ _ _ => rfl
  have HV := hide hv
  have HNA := hide h
  obtain ⟨wA, hwA⟩ : ∃ wA, wA = w.alloc (.cells #[.pointer (some ⟨bm, 0, none⟩)] 22) := ⟨_, rfl⟩
  have hbA : Below w.heap.size w wA := by rw [hwA]; exact (Below.refl _ _).alloc (Nat.le_refl _) _
  have hsA : wA.heap.size = w.heap.size + 1 := by rw [hwA]; simp
  have hA : wA.heap[w.heap.size]? = some (.cells #[.pointer (some ⟨bm, 0, none⟩)] 22 (0, 0)) := by rw [hwA]; exact heap_alloc_new _ _
  have HF := hide (fits_any bm S I gN next uN v l wA (h.below hbA) (hv.below hbA) hl)
  have HT := hide (turned_any v l wA (hv.below hbA))
  rw [hl] at HT
  obtain ⟨a, c, rfl⟩ := hv.slice
  rw [hl] at HF HT ⊢
  rw [hwA] at HF HT
  have HWA := hide hwA
  have HBA := hide hbA
  have HA := hide hA
  clear hwA hbA hA h hv
  go_enter Tryz.func12, Tryz.ntmps12
  go_wp2_with fail
  refine HF.out.mono ?_
  rintro e w0 ⟨rfl, hw0⟩
  rw [hw0]
  clear HF hw0
  go_wp2_with fail
  refine HT.out.mono ?_
  rintro e w1 ⟨gi, rfl, hrow, hgi, hb1⟩
  rw [← HWA.out] at hgi hb1
  have hz1 := hb1.size
  have hM1 := (hb1.block _ (by omega)).trans HA.out
  have HB1 := hide (HBA.out.trans (hb1.mono HBA.out.size))
  have hg1 := RowIs.lt hrow
  obtain ⟨w2, hw2⟩ : ∃ w2, w2 = w1.alloc (.cells #[.slice (some ⟨gi, 0, none⟩) S S] 45) := ⟨_, rfl⟩
  have hb2 : Below w1.heap.size w1 w2 := by rw [hw2]; exact (Below.refl _ _).alloc (Nat.le_refl _) _
  have hz2 : w2.heap.size = w1.heap.size + 1 := by rw [hw2]; simp
  have hO2 : w2.heap[w1.heap.size]? = some (.cells #[.slice (some ⟨gi, 0, none⟩) S S] 45 (0, 0)) := by rw [hw2]; exact heap_alloc_new _ _
  have hM2 := (hb2.block _ (by omega)).trans hM1
  have HB2 := hide (HB1.out.trans (hb2.mono HB1.out.size))
  have m1 : w1.cell? ⟨w.heap.size, 0, none⟩ = some (.pointer (some ⟨bm, 0, none⟩)) := by rw [Lib.cell_of_heap hM1]; rfl
  have hwl : w.heap.size < w1.heap.size := by omega
  have HBW : Hid (∀ W, w2.grownBy W (some gi) → Below w.heap.size w W) := fun W hW => HB2.out.grown hW HB2.out.size (fun j e => by cases e; omega)
  have HCE : Hid (∀ W, w2.grownBy W (some gi) → W.cell? ⟨w.heap.size, 0, none⟩ = some (.pointer (some ⟨bm, 0, none⟩)) ∧ W.cell? ⟨w1.heap.size, 0, none⟩ = some (.slice (some ⟨gi, 0, none⟩) S S)) := fun W hW =>
    ⟨by rw [Lib.cell_of_heap ((hW.block _ (by omega) (fun e => by cases e; omega)).trans hM2)]; rfl, by rw [Lib.cell_of_heap ((hW.block _ (by omega) (fun e => by cases e; omega)).trans hO2)]; rfl⟩
  have hent : Entering w2 gi S [] (.func (.func 29) #[] #[.pointer (some ⟨w.heap.size, 0, none⟩), .pointer (some ⟨w1.heap.size, 0, none⟩)]) (fun l s => (next s).any (fun t => l.getD t false)) :=
    ⟨_, _, rfl, fun _ _ => by kernel_rfl, fun r s W hW hr hR hs => stays1_any _ _ bm S I gN gi S next uN _ r s W (HCE.out W hW).1 (HCE.out W hW).2 (HNA.out.below (HBW.out W hW)) hS hI hnl hnx hr hR hs⟩
  have HG := hide (grow_any bm S I gN next uN gi S [] (Rc.turn l) _ (Rc.Some next) _ w2 (HNA.out.below HB2.out) hS hI hnl hnx (by rw [Rc.turn_len]; exact hl) (hrow.below hb2) (Nat.le_refl _) hent (Rc.asks_some next) (fun X s _ ⟨t, h1, h2⟩ => ⟨t, h1, h2⟩) (fun r s => some_eb next r s))
  rw [hw2] at HG
  have HW2 := hide hw2
  have hgw : w.heap.size ≤ gi := by omega
  clear hw2 hb2 hO2 hM2 hM1 hrow hb1 hent HT
  go_wp2_with fail
  refine HG.out.mono ?_
  rintro e w3 ⟨rfl, hgr, r, hr, hrow3⟩
  rw [← HW2.out] at hgr
  obtain ⟨_, o3⟩ := HCE.out w3 hgr
  have HB3 := hide (HBW.out w3 hgr)
  have HR := hide hr
  have HR3 := hide hrow3
  have hrl : r.length = S := hr.len
  have HT2 := hide (turned_any _ r w3 (hrow3.bools (cp := S) (by omega)))
  rw [hrl] at HT2
  clear hgr hr hrow3 HG m1
  go_wp2_with fail
  refine HT2.out.mono ?_
  rintro e w4 ⟨g4, rfl, hrow4, hg4, hb4⟩
  have HR4 := hide hrow4
  have HB4 := hide (HB3.out.trans (hb4.mono HB3.out.size))
  have hz4 := HB3.out.size
  clear hrow4 hb4 HT2
  go_wp2_with fail
  refine bodyPost_ret (results_tmp2 rfl _ _ _) rfl ?_
  exact ⟨g4, r, rfl, HR.out, HR4.out, by omega, HB4.out⟩
set_option maxHeartbeats 4000000 in
set_option maxRecDepth 100000 in
theorem Comes_any (bm S I gN : Nat) (next : Nat → List Nat) (uN : List Nat) (v : Value) (l : List Bool) (w : World) (h : NextAt w bm S I next gN uN) (hS1 : 1 ≤ S) (hS : S ≤ 4096) (hI : I ≤ 64) (_hI1 : 1 ≤ I) (hnl : ∀ s, (next s).length = I) (hnx : ∀ f s, f < S → s ∈ next f → s < S) (hv : Bools w v l) (hl : l.length = S) :
    Calls Tryz.prog 13 #[.pointer (some ⟨bm, 0, none⟩), v] w (Fixed w S (Rc.Some next) l) := by
  have hmf : ∀ (fn : Fn) (first cap : Array Value) (w : World), (Instr.makeFunc fn first cap).run Tryz.prog w = .ok (.func fn first cap) w := fun _ _ _ _ => rfl
  have HV := hide hv
  have HNA := hide h
  obtain ⟨wA, hwA⟩ : ∃ wA, wA = w.alloc (.cells #[.pointer (some ⟨bm, 0, none⟩)] 22) := ⟨_, rfl⟩
  have hbA : Below w.heap.size w wA := by rw [hwA]; exact (Below.refl _ _).alloc (Nat.le_refl _) _
  have hsA : wA.heap.size = w.heap.size + 1 := by rw [hwA]; simp
  have hA : wA.heap[w.heap.size]? = some (.cells #[.pointer (some ⟨bm, 0, none⟩)] 22 (0, 0)) := by rw [hwA]; exact heap_alloc_new _ _
  have HF := hide (fits_any bm S I gN next uN v l wA (h.below hbA) (hv.below hbA) hl)
  have HT := hide (cloneB_any l v wA (hv.below hbA) (by omega))
  rw [hl] at HT
  obtain ⟨a, c, rfl⟩ := hv.slice
  rw [hl] at HF HT ⊢
  rw [hwA] at HF HT
  have HWA := hide hwA
  have HBA := hide hbA
  have HA := hide hA
  clear hwA hbA hA h hv
  go_enter Tryz.func13, Tryz.ntmps13
  go_wp2_with fail
  refine HF.out.mono ?_
  rintro e w0 ⟨rfl, hw0⟩
  rw [hw0]
  clear HF hw0
  go_wp2_with fail
  refine HT.out.mono ?_
  rintro e w1 ⟨gi, cp, rest, rfl, hcp, hrow, hgi, hb1⟩
  rw [← HWA.out] at hgi hb1
  have hz1 := hb1.size
  have hM1 := (hb1.block _ (by omega)).trans HA.out
  have HB1 := hide (HBA.out.trans (hb1.mono HBA.out.size))
  have hg1 := RowIs.lt hrow
  obtain ⟨w2, hw2⟩ : ∃ w2, w2 = w1.alloc (.cells #[.slice (some ⟨gi, 0, none⟩) S cp] 45) := ⟨_, rfl⟩
  have hb2 : Below w1.heap.size w1 w2 := by rw [hw2]; exact (Below.refl _ _).alloc (Nat.le_refl _) _
  have hz2 : w2.heap.size = w1.heap.size + 1 := by rw [hw2]; simp
  have hO2 : w2.heap[w1.heap.size]? = some (.cells #[.slice (some ⟨gi, 0, none⟩) S cp] 45 (0, 0)) := by rw [hw2]; exact heap_alloc_new _ _
  have hM2 := (hb2.block _ (by omega)).trans hM1
  have HB2 := hide (HB1.out.trans (hb2.mono HB1.out.size))
  have m1 : w1.cell? ⟨w.heap.size, 0, none⟩ = some (.pointer (some ⟨bm, 0, none⟩)) := by rw [Lib.cell_of_heap hM1]; rfl
  have hwl : w.heap.size < w1.heap.size := by omega
  have HBW : Hid (∀ W, w2.grownBy W (some gi) → Below w.heap.size w W) := fun W hW => HB2.out.grown hW HB2.out.size (fun j e => by cases e; omega)
  have HCE : Hid (∀ W, w2.grownBy W (some gi) → W.cell? ⟨w.heap.size, 0, none⟩ = some (.pointer (some ⟨bm, 0, none⟩)) ∧ W.cell? ⟨w1.heap.size, 0, none⟩ = some (.slice (some ⟨gi, 0, none⟩) S cp)) := fun W hW =>
    ⟨by rw [Lib.cell_of_heap ((hW.block _ (by omega) (fun e => by cases e; omega)).trans hM2)]; rfl, by rw [Lib.cell_of_heap ((hW.block _ (by omega) (fun e => by cases e; omega)).trans hO2)]; rfl⟩
  have hent : Entering w2 gi S rest (.func (.func 33) #[] #[.pointer (some ⟨w.heap.size, 0, none⟩), .pointer (some ⟨w1.heap.size, 0, none⟩)]) (fun l s => (next s).any (fun t => l.getD t false)) :=
    ⟨_, _, rfl, fun _ _ => by kernel_rfl, fun r s W hW hr hR hs => comes1_any _ _ bm S I gN gi cp next uN _ r s W (HCE.out W hW).1 (HCE.out W hW).2 (HNA.out.below (HBW.out W hW)) hS hI hnl hnx hr hR hs⟩
  have HG := hide (grow_any bm S I gN next uN gi cp rest l _ (Rc.Some next) _ w2 (HNA.out.below HB2.out) hS hI hnl hnx hl (hrow.below hb2) hcp hent (Rc.asks_some next) (fun X s _ ⟨t, h1, h2⟩ => ⟨t, h1, h2⟩) (fun r s => some_eb next r s))
  rw [hw2] at HG
  have HW2 := hide hw2
  have hgw : w.heap.size ≤ gi := by omega
  clear hw2 hb2 hO2 hM2 hM1 hrow hb1 hent HT
  go_wp2_with fail
  refine HG.out.mono ?_
  rintro e w3 ⟨rfl, hgr, r, hr, hrow3⟩
  rw [← HW2.out] at hgr
  obtain ⟨_, o3⟩ := HCE.out w3 hgr
  have HB3 := hide (HBW.out w3 hgr)
  have HR := hide hr
  have HR3 := hide hrow3
  have hrl : r.length = S := hr.len
  clear hgr hr hrow3 HG m1
  go_wp2_with fail
  refine bodyPost_ret (results_tmp2 rfl _ _ _) rfl ?_
  exact ⟨gi, cp, rest, r, rfl, hcp, HR.out, HR3.out, hgw, HB3.out⟩
set_option maxHeartbeats 4000000 in
set_option maxRecDepth 100000 in
theorem Forces_any (bm S I gN : Nat) (next : Nat → List Nat) (uN : List Nat) (v : Value) (l : List Bool) (w : World) (h : NextAt w bm S I next gN uN) (hS1 : 1 ≤ S) (hS : S ≤ 4096) (hI : I ≤ 64) (hI1 : 1 ≤ I) (hnl : ∀ s, (next s).length = I) (hnx : ∀ f s, f < S → s ∈ next f → s < S) (hv : Bools w v l) (hl : l.length = S) :
    Calls Tryz.prog 14 #[.pointer (some ⟨bm, 0, none⟩), v] w (Fixed w S (Rc.All next) l) := by
  have hmf : ∀ (fn : Fn) (first cap : Array Value) (w : World), (Instr.makeFunc fn first cap).run Tryz.prog w = .ok (.func fn first cap) w := fun _ _ _ _ => rfl
  have HV := hide hv
  have HNA := hide h
  obtain ⟨wA, hwA⟩ : ∃ wA, wA = w.alloc (.cells #[.pointer (some ⟨bm, 0, none⟩)] 22) := ⟨_, rfl⟩
  have hbA : Below w.heap.size w wA := by rw [hwA]; exact (Below.refl _ _).alloc (Nat.le_refl _) _
  have hsA : wA.heap.size = w.heap.size + 1 := by rw [hwA]; simp
  have hA : wA.heap[w.heap.size]? = some (.cells #[.pointer (some ⟨bm, 0, none⟩)] 22 (0, 0)) := by rw [hwA]; exact heap_alloc_new _ _
  have HF := hide (fits_any bm S I gN next uN v l wA (h.below hbA) (hv.below hbA) hl)
  have HT := hide (cloneB_any l v wA (hv.below hbA) (by omega))
  rw [hl] at HT
  obtain ⟨a, c, rfl⟩ := hv.slice
  rw [hl] at HF HT ⊢
  rw [hwA] at HF HT
  have HWA := hide hwA
  have HBA := hide hbA
  have HA := hide hA
  clear hwA hbA hA h hv
  go_enter Tryz.func14, Tryz.ntmps14
  go_wp2_with fail
  refine HF.out.mono ?_
  rintro e w0 ⟨rfl, hw0⟩
  rw [hw0]
  clear HF hw0
  go_wp2_with fail
  refine HT.out.mono ?_
  rintro e w1 ⟨gi, cp, rest, rfl, hcp, hrow, hgi, hb1⟩
  rw [← HWA.out] at hgi hb1
  have hz1 := hb1.size
  have hM1 := (hb1.block _ (by omega)).trans HA.out
  have HB1 := hide (HBA.out.trans (hb1.mono HBA.out.size))
  have hg1 := RowIs.lt hrow
  obtain ⟨w2, hw2⟩ : ∃ w2, w2 = w1.alloc (.cells #[.slice (some ⟨gi, 0, none⟩) S cp] 45) := ⟨_, rfl⟩
  have hb2 : Below w1.heap.size w1 w2 := by rw [hw2]; exact (Below.refl _ _).alloc (Nat.le_refl _) _
  have hz2 : w2.heap.size = w1.heap.size + 1 := by rw [hw2]; simp
  have hO2 : w2.heap[w1.heap.size]? = some (.cells #[.slice (some ⟨gi, 0, none⟩) S cp] 45 (0, 0)) := by rw [hw2]; exact heap_alloc_new _ _
  have hM2 := (hb2.block _ (by omega)).trans hM1
  have HB2 := hide (HB1.out.trans (hb2.mono HB1.out.size))
  have m1 : w1.cell? ⟨w.heap.size, 0, none⟩ = some (.pointer (some ⟨bm, 0, none⟩)) := by rw [Lib.cell_of_heap hM1]; rfl
  have hwl : w.heap.size < w1.heap.size := by omega
  have HBW : Hid (∀ W, w2.grownBy W (some gi) → Below w.heap.size w W) := fun W hW => HB2.out.grown hW HB2.out.size (fun j e => by cases e; omega)
  have HCE : Hid (∀ W, w2.grownBy W (some gi) → W.cell? ⟨w.heap.size, 0, none⟩ = some (.pointer (some ⟨bm, 0, none⟩)) ∧ W.cell? ⟨w1.heap.size, 0, none⟩ = some (.slice (some ⟨gi, 0, none⟩) S cp)) := fun W hW =>
    ⟨by rw [Lib.cell_of_heap ((hW.block _ (by omega) (fun e => by cases e; omega)).trans hM2)]; rfl, by rw [Lib.cell_of_heap ((hW.block _ (by omega) (fun e => by cases e; omega)).trans hO2)]; rfl⟩
  have hent : Entering w2 gi S rest (.func (.func 34) #[] #[.pointer (some ⟨w.heap.size, 0, none⟩), .pointer (some ⟨w1.heap.size, 0, none⟩)]) (fun l s => !(next s).any (fun t => !l.getD t false)) :=
    ⟨_, _, rfl, fun _ _ => by kernel_rfl, fun r s W hW hr hR hs => forces1_any _ _ bm S I gN gi cp next uN _ r s W (HCE.out W hW).1 (HCE.out W hW).2 (HNA.out.below (HBW.out W hW)) hS hI hnl hnx hr hR hs⟩
  have HG := hide (grow_any bm S I gN next uN gi cp rest l _ (Rc.All next) _ w2 (HNA.out.below HB2.out) hS hI hnl hnx hl (hrow.below hb2) hcp hent (Rc.asks_all next) (fun X s hs he => all_hit next I hI1 hnl X s he) (fun r s => all_eb next r s))
  rw [hw2] at HG
  have HW2 := hide hw2
  have hgw : w.heap.size ≤ gi := by omega
  clear hw2 hb2 hO2 hM2 hM1 hrow hb1 hent HT
  go_wp2_with fail
  refine HG.out.mono ?_
  rintro e w3 ⟨rfl, hgr, r, hr, hrow3⟩
  rw [← HW2.out] at hgr
  obtain ⟨_, o3⟩ := HCE.out w3 hgr
  have HB3 := hide (HBW.out w3 hgr)
  have HR := hide hr
  have HR3 := hide hrow3
  have hrl : r.length = S := hr.len
  clear hgr hr hrow3 HG m1
  go_wp2_with fail
  refine bodyPost_ret (results_tmp2 rfl _ _ _) rfl ?_
  exact ⟨gi, cp, rest, r, rfl, hcp, HR.out, HR3.out, hgw, HB3.out⟩
end
end Go.Proofs.YtkfikffnljnepaaGreatDoor
