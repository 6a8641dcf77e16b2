/-
  The walk of take: what is left of each part is added, one behind the other. The walk of take. What is left of a list, in memory: a list of the parts that are left. The walk of whole: what is left of a list. The walk of whole: one part, and more.
-/
import Derived.Test.YtdlcelbbelcfkaaGreatDoorTdAddDAll
import Derived.Deep.RegionHeld3
namespace Go.Proofs.YtdlcelbbelcfkaaGreatDoor
section
open Go.RowKit Go.Maps
/-- tidy, at this expression -/
def TidyOK (x : Ex) : Prop := ∀ (ok : Nat → Prop) (mb : Nat) (tb : List (List UInt8)) (v : Value) (w : World), Tbl mb tb w → Pow w → (∀ g, ok g → g < w.heap.size) → IsEx ok w x v → Ex.Wf x → tb.length + Ex.cost x ≤ 1000000 →
  Calls Tryz.prog 57 #[.agg #[.map (some mb)], v] w (Made ok mb tb (Ex.cost x) x.tidy w)
def costL (l : List Ex) : Nat := (l.map fun x => Ex.cost x + x.size).sum
/-- what taking comes to -/
def TdTaken (ok : Nat → Prop) (B C mb gb sb k : Nat) (tb : List (List UInt8)) (L : List Ex) (c N : Nat) (pv : Value) (w : World) (e : Ending) (w' : World) : Prop :=
  e = .returned (.tuple #[]) ∧ ∃ more U d pv', Gs ok B C mb gb sb k (tb ++ more) U d pv' w' ∧ Ex.Gth k L U d ∧ more.length ≤ c ∧ U.length ≤ N ∧ Gf mb gb sb pv pv' w w'
/-- take, at this list -/
def TakeOK (l : List Ex) : Prop := ∀ (ok : Nat → Prop) (B C mb gb sb k : Nat) (tb : List (List UInt8)) (L U : List Ex) (d : Bool) (pv : Value) (w : World) (g cap : Nat), (k = 6 ∨ k = 7) → Gs ok B C mb gb sb k tb U d pv w → Ex.Gth k L U d → (∀ y, y ∈ L → Ex.Td y) → (∀ y, y ∈ l → Ex.Wf y) → l.length ≤ cap → l.length ≤ 9223372036854775807 → ok g →
  (∀ (i : Nat) (y : Ex), l[i]? = some y → ∃ u, w.cell? ⟨g, i, none⟩ = some u ∧ IsEx ok w y u) → tb.length + costL l ≤ 1000000 → U.length + costL l ≤ 1000000 →
  Calls Tryz.prog 124 #[.pointer (some ⟨gb, 0, none⟩), .slice (some ⟨g, 0, none⟩) l.length cap] w (TdTaken ok B C mb gb sb k tb (L ++ (l.map fun x => Ex.sq k x).flatten) (costL l) (U.length + costL l) pv w)
theorem costL_take (l : List Ex) (j : Nat) (y : Ex) (h : l[j]? = some y) : costL (l.take (j + 1)) = costL (l.take j) + (Ex.cost y + y.size) := by
  have hj : j < l.length := (List.getElem?_eq_some_iff.1 h).1
  unfold costL
  rw [List.take_succ_eq_append_getElem hj, List.map_append, List.sum_append, (List.getElem?_eq_some_iff.1 h).2]
  simp
theorem costL_le (l : List Ex) (j : Nat) : costL (l.take j) ≤ costL l := by
  have : costL l = costL (l.take j) + costL (l.drop j) := by
    unfold costL
    rw [← List.sum_append, ← List.map_append, List.take_append_drop]
  omega
theorem sq_take (k : Nat) (l : List Ex) (j : Nat) (y : Ex) (h : l[j]? = some y) : ((l.take (j + 1)).map fun x => Ex.sq k x).flatten = ((l.take j).map fun x => Ex.sq k x).flatten ++ Ex.sq k y := by
  have hj : j < l.length := (List.getElem?_eq_some_iff.1 h).1
  rw [List.take_succ_eq_append_getElem hj, List.map_append, List.flatten_append, (List.getElem?_eq_some_iff.1 h).2]
  simp
/-- a list's parts, as they lie -/
theorem within_list (T : Nat) (hT : T = 169 ∨ T = 171) (a : Option Addr) (b c : Nat) (w : World) : Calls Tryz.prog 150 #[.iface T (.slice a b c)] w fun e w' => e = .returned (.slice a b c) ∧ w' = w := by
  rcases hT with rfl | rfl
  · go_enter Tryz.func150, Tryz.ntmps150
    go_wp2
    go_ret
    exact ⟨rfl, rfl⟩
  · go_enter Tryz.func150, Tryz.ntmps150
    go_wp2
    go_ret
    exact ⟨rfl, rfl⟩
theorem td_sq (k : Nat) (h6 : 6 ≤ k) (h7 : k ≤ 7) (x : Ex) : Ex.Wf x → ∀ y, y ∈ Ex.sq k x → Ex.Td y := by
  induction x using Ex.ind with
  | h j nm l ih =>
    intro hw y hy
    by_cases hj : j = k
    · subst hj
      rw [Ex.sq_in] at hy
      obtain ⟨L, hL, hyL⟩ := List.mem_flatten.1 hy
      obtain ⟨z, hz, rfl⟩ := List.mem_map.1 hL
      exact ih z hz (((Ex.Wf.def _ _ _).1 hw).2 z hz) y hyL
    · rw [Ex.sq_out k _ hj] at hy
      exact (Ex.td_pieces k (Ex.td_tidy _ hw) y hy).1
/-- a list's value -/
theorem IsEx.list {ok : Nat → Prop} {w : World} {k : Nat} (hk : k = 6 ∨ k = 7) {nm : List UInt8} {l : List Ex} {v : Value} (h : IsEx ok w ⟨k, nm, l⟩ v) : ∃ T g cap, (T = 169 ∨ T = 171) ∧ v = .iface T (.slice (some ⟨g, 0, none⟩) l.length cap) ∧ l.length ≤ cap ∧ l.length ≤ 9223372036854775807 ∧ ok g ∧ ∀ (i : Nat) (y : Ex), l[i]? = some y → ∃ u, w.cell? ⟨g, i, none⟩ = some u ∧ IsEx ok w y u := by
  have hlist : ∀ T, IsList ok w T l.length (l.map fun x => IsEx ok w x) v → ∃ g cap, v = .iface T (.slice (some ⟨g, 0, none⟩) l.length cap) ∧ l.length ≤ cap ∧ l.length ≤ 9223372036854775807 ∧ ok g ∧ ∀ (i : Nat) (y : Ex), l[i]? = some y → ∃ u, w.cell? ⟨g, i, none⟩ = some u ∧ IsEx ok w y u := by
    rintro T ⟨_, h2, g, cap, h3, h4, h5, h6⟩
    refine ⟨g, cap, h3, h4, h2, h5, fun i y hi => ?_⟩
    exact h6 i _ (by rw [List.getElem?_map, hi]; rfl)
  rcases hk with rfl | rfl
  · simp only [IsEx] at h
    obtain ⟨g, cap, h⟩ := hlist _ h.2
    exact ⟨_, g, cap, .inl rfl, h⟩
  · simp only [IsEx] at h
    obtain ⟨g, cap, h⟩ := hlist _ h.2
    exact ⟨_, g, cap, .inr rfl, h⟩
/-- where the taking stands -/
structure Tk (ok : Nat → Prop) (B C mb gb sb k : Nat) (tb : List (List UInt8)) (L : List Ex) (c N : Nat) (pv : Value) (w : World) (more : List (List UInt8)) (U : List Ex) (d : Bool) (pv' : Value) (wr : World) : Prop where
  gs : Gs ok B C mb gb sb k (tb ++ more) U d pv' wr
  gth : Ex.Gth k L U d
  len : more.length ≤ c
  num : U.length ≤ N
  gf : Gf mb gb sb pv pv' w wr
theorem td_so_far (k : Nat) (hk : k = 6 ∨ k = 7) (L l : List Ex) (j : Nat) (hL : ∀ y, y ∈ L → Ex.Td y) (hw : ∀ y, y ∈ l → Ex.Wf y) : ∀ z, z ∈ L ++ ((l.take j).map fun x => Ex.sq k x).flatten → Ex.Td z := by
  intro z hz
  rcases List.mem_append.1 hz with hz | hz
  · exact hL z hz
  · obtain ⟨M, hM, hzM⟩ := List.mem_flatten.1 hz
    obtain ⟨y, hy, rfl⟩ := List.mem_map.1 hM
    exact td_sq k (by omega) (by omega) y (hw y (List.mem_of_mem_take hy)) z hzM
set_option maxHeartbeats 8000000 in
set_option maxRecDepth 100000 in
theorem ttake_any (l : List Ex) (hIH : ∀ y, y ∈ l → TidyOK y ∧ TakeOK y.of) : TakeOK l := by
  intro ok B C mb gb sb k tb L U d pv w g cap hk h hg hLt hwf hcap hmx hog hrow hc1 hc2
  have HIH := hide hIH
  have HH := hide h
  have HG := hide hg
  have HLT := hide hLt
  have HWF := hide hwf
  have HROW := hide hrow
  have HK := hide hk
  obtain ⟨n, hn⟩ : ∃ n, n = l.length := ⟨_, rfl⟩
  have HN := hide hn
  rw [← hn]
  rw [← hn] at hcap hmx
  have hgl : gb < w.heap.size := h.lt
  clear h hg hLt hwf hrow hIH hn hk
  go_enter Tryz.func124, Tryz.ntmps124
  go_wp2_with fail
  go_loopw [11] (fun i wr => ∃ j : Nat, j ≤ n ∧ i = .int .i64 (j : Int) ∧ ∃ more U' d' pv', Hid (Tk ok B C mb gb sb k tb (L ++ ((l.take j).map fun x => Ex.sq k x).flatten) (costL (l.take j)) (U.length + costL (l.take j)) pv w more U' d' pv' wr)) (fun i _ => n - (intOf i).toNat)
  case atStart => exact ⟨0, Nat.zero_le _, rfl, [], U, d, pv, ⟨by rw [List.append_nil]; exact HH.out, by simpa using HG.out, by simp, by simp [costL], Gf.refl _ _ _ _ _⟩⟩
  case round =>
    obtain ⟨j, hj, rfl, more, U', d', pv', HT⟩ := hrel
    by_cases hlt : j < n
    · have hjl : j < l.length := by rw [← HN.out]; exact hlt
      have HY : Hid (l[j]? = some l[j]) := List.getElem?_eq_getElem hjl
      have hym : l[j] ∈ l := List.getElem_mem hjl
      obtain ⟨u, hu, hxu⟩ := HROW.out j l[j] HY.out
      have hcell : wr.cell? ⟨g, j, none⟩ = some u := (HH.out.input HT.out.gf) g j u hog hu
      have HX := hide (IsEx.stay (HH.out.input HT.out.gf) (fun _ h => h) _ u hxu)
      obtain ⟨tu, yu, hiu⟩ := IsEx.iface _ u hxu
      subst hiu
      obtain ⟨HTD, HTK⟩ := HIH.out l[j] hym
      have HTD := hide HTD
      have HTK := hide HTK
      have HW := hide (HWF.out l[j] hym)
      have HCT := hide (costL_take l j l[j] HY.out)
      have HCL := hide (costL_le l (j + 1))
      have HSQ := hide (sq_take k l j l[j] HY.out)
      generalize l[j] = y at *
      have c0 := HT.out.gs.c0
      have c1 := HT.out.gs.c1
      have c4 := HT.out.gs.c4
      have hglr := HT.out.gs.lt
      clear hu hxu hjl hym
      cases d' with
      | true =>
        have HEND : Hid (TdTaken ok B C mb gb sb k tb (L ++ (l.map fun x => Ex.sq k x).flatten) (costL l) (U.length + costL l) pv w (.returned (.tuple #[])) wr) := by
          have hcl := costL_le l j
          refine ⟨rfl, more, U', true, pv', HT.out.gs, ?_, Nat.le_trans HT.out.len hcl, Nat.le_trans HT.out.num (by omega), HT.out.gf⟩
          have e : (l.map fun x => Ex.sq k x).flatten = ((l.take j).map fun x => Ex.sq k x).flatten ++ ((l.drop j).map fun x => Ex.sq k x).flatten := by
            rw [← List.flatten_append, ← List.map_append, List.take_append_drop]
          rw [e, ← List.append_assoc]
          exact HT.out.gth.rest _
        go_wp2_with fail
        go_end0
        exact HEND.out
      | false =>
        have HAL := hide (fun W hc => alike_any ok gb k HK.out y (.iface tu yu) wr W HX.out hc)
        go_wp2_with fail
        refine (HAL.out wr c1).mono ?_
        rintro e w1 ⟨rfl, hw1⟩
        have hw1 := hw1.symm
        subst hw1
        by_cases hyk : y.kind = k
        · rw [decide_eq_true hyk]
          obtain ⟨ky, nmy, ly⟩ := y
          simp only at hyk
          subst hyk
          obtain ⟨T, g2, cap2, hT, hv, hcap2, hmx2, hog2, hrow2⟩ := IsEx.list HK.out HX.out
          rw [hv]
          have HC1 := hide (within_list T hT (some ⟨g2, 0, none⟩) ly.length cap2 wr)
          have HLJ : Hid (∀ z, z ∈ L ++ ((l.take j).map fun x => Ex.sq ky x).flatten → Ex.Td z) := td_so_far ky HK.out L l j HLT.out HWF.out
          have hcs : Ex.cost ⟨ky, nmy, ly⟩ = 1 + costL ly := Ex.cost_def ky nmy ly
          have HTK2 : TakeOK ly := HTK.out
          have HC2 := hide (HTK2 ok B C mb gb sb ky (tb ++ more) (L ++ ((l.take j).map fun x => Ex.sq ky x).flatten) U' false pv' wr g2 cap2 HK.out HT.out.gs HT.out.gth HLJ.out ((Ex.Wf.def _ _ _).1 HW.out).2 hcap2 hmx2 hog2 hrow2 (by have := HCT.out; have := HCL.out; have := HT.out.len; rw [List.length_append]; omega) (by have := HCT.out; have := HCL.out; have := HT.out.num; omega))
          have HNEXT : Hid (∀ w3, TdTaken ok B C mb gb sb ky (tb ++ more) (L ++ ((l.take j).map fun x => Ex.sq ky x).flatten ++ (ly.map fun x => Ex.sq ky x).flatten) (costL ly) (U'.length + costL ly) pv' wr (.returned (.tuple #[])) w3 → ∃ more U' d' pv', Hid (Tk ok B C mb gb sb ky tb (L ++ ((l.take (j + 1)).map fun x => Ex.sq ky x).flatten) (costL (l.take (j + 1))) (U.length + costL (l.take (j + 1))) pv w more U' d' pv' w3)) := by
            rintro w3 ⟨_, more2, U2, d2, pv2, g1, g2, g3, g4, g5⟩
            refine ⟨more ++ more2, U2, d2, pv2, ⟨by rw [← List.append_assoc]; exact g1, ?_, ?_, ?_, HT.out.gf.trans g5⟩⟩
            · rw [HSQ.out, Ex.sq_in, ← List.append_assoc]; exact g2
            · have := HCT.out; have := HT.out.len; rw [List.length_append]; omega
            · have := HCT.out; have := HT.out.num; omega
          clear hrow2 hv HTK2
          go_wp2_with fail
          refine HC1.out.mono ?_
          rintro e w2 ⟨rfl, hw2⟩
          have hw2 := hw2.symm
          subst hw2
          go_wp2_with fail
          refine HC2.out.mono ?_
          intro e w3 htk
          have hrel3 := HNEXT.out w3 (by rw [← htk.1]; exact htk)
          obtain ⟨rfl, _⟩ := htk
          go_wp2_with fail
          go_roundw
          case rel => exact ⟨j + 1, by omega, by go_num, hrel3⟩
          case measure => simp [intOf]; omega
        · rw [decide_eq_false hyk]
          have hbB := HT.out.gs.gbB
          have hbC := HT.out.gs.gbC
          have hss := HT.out.gs.size
          have HLJ : Hid (∀ z, z ∈ L ++ ((l.take j).map fun x => Ex.sq k x).flatten → Ex.Td z) := td_so_far k HK.out L l j HLT.out HWF.out
          have HTT := hide (Ex.td_tidy y HW.out)
          have HPL := hide (Ex.pieces_len k y HW.out)
          have HSO := hide (Ex.sq_out k y hyk)
          have HC1 := hide (HTD.out ok mb (tb ++ more) (.iface tu yu) wr HT.out.gs.tbl HT.out.gs.pow (fun g hg => by have := HT.out.gs.okB g hg; omega) HX.out HW.out (by have := HCT.out; have := HCL.out; have := HT.out.len; rw [List.length_append]; omega))
          generalize hty : y.tidy = ty at *
          clear hty HX HTD HTK
          go_wp2_with fail
          refine HC1.out.mono ?_
          rintro e w2 ⟨v', n', q', more2, rfl, hq, hqt, hqm, hqg⟩
          obtain ⟨t1, y1, e1⟩ := IsEx.iface _ _ hq.ex
          obtain ⟨pa, pb, pc, e2⟩ := hq.slice
          subst e1 e2
          have hG2 := HT.out.gs.grown hqg hqt
          have hq2 : IsTv (okp ok C pv') ((tb ++ more) ++ more2) w2 ty (.iface t1 y1) n' (.slice pa pb pc) := hq.mono fun g hg => by
            refine ⟨?_, fun e => ?_⟩
            · rcases hg with h1 | h1
              · exact .inl h1
              · exact .inr (by omega)
            · have ho := HT.out.gs.own g e.symm
              rcases hg with h1 | h1
              · have := HT.out.gs.okB g h1; omega
              · omega
          have hb3 : Below w2.heap.size w2 (w2.alloc (.cells #[.iface t1 y1, .int .i64 (n' : Int), .slice pa pb pc] 130)) := (Below.refl _ _).alloc (Nat.le_refl _) _
          have hG3 := hG2.below hb3
          have hq3 : IsTv (okp ok C pv') ((tb ++ more) ++ more2) (w2.alloc (.cells #[.iface t1 y1, .int .i64 (n' : Int), .slice pa pb pc] 130)) ty (.iface t1 y1) n' (.slice pa pb pc) := by
            have := IsTv.stay [] (Stay.below hb3) (fun _ h => h) ty _ n' _ hq2
            rwa [List.append_nil] at this
          have HG3 := hide hG3
          have HQ3 := hide hq3
          have HF3 : Hid (Gf mb gb sb pv' pv' wr (w2.alloc (.cells #[.iface t1 y1, .int .i64 (n' : Int), .slice pa pb pc] 130))) := (Gf.grown hqg).trans (Gf.below hb3)
          have c13 := hG3.c1
          have HAL2 := hide (fun W hc => alike_any _ gb k HK.out ty (.iface t1 y1) _ W hq3.ex hc)
          have HQM := hide hqm
          have hgl3 := hG3.lt
          have HNEXT : Hid (∀ (more3 : List (List UInt8)) (U3 : List Ex) (d3 : Bool) (pv3 : Value) (w4 : World), Gs ok B C mb gb sb k (tb ++ more ++ more2 ++ more3) U3 d3 pv3 w4 → Ex.Gth k (L ++ ((l.take j).map fun x => Ex.sq k x).flatten ++ Ex.pieces k ty) U3 d3 → more3.length ≤ (Ex.pieces k ty).length → U3.length ≤ U'.length + (Ex.pieces k ty).length → Gf mb gb sb pv' pv3 (w2.alloc (.cells #[.iface t1 y1, .int .i64 (n' : Int), .slice pa pb pc] 130)) w4 →
              ∃ more U' d' pv', Hid (Tk ok B C mb gb sb k tb (L ++ ((l.take (j + 1)).map fun x => Ex.sq k x).flatten) (costL (l.take (j + 1))) (U.length + costL (l.take (j + 1))) pv w more U' d' pv' w4)) := by
            intro more3 U3 d3 pv3 w4 g1 g2 g3 g4 g5
            have x1 := HCT.out
            have x2 := HT.out.len
            have x3 := HPL.out
            have x4 := HT.out.num
            refine ⟨more ++ (more2 ++ more3), U3, d3, pv3, ⟨?_, ?_, ?_, ?_, HT.out.gf.trans (HF3.out.trans g5)⟩⟩
            · have e : tb ++ (more ++ (more2 ++ more3)) = tb ++ more ++ more2 ++ more3 := by simp
              rw [e]; exact g1
            · rw [HSQ.out, HSO.out, ← List.append_assoc]; exact g2
            · rw [List.length_append, List.length_append]; omega
            · omega
          have HBUD : Hid ((tb ++ more ++ more2).length + (Ex.pieces k ty).length ≤ 1000000 ∧ U'.length + (Ex.pieces k ty).length ≤ 1000000) := by
            have x1 := HCT.out
            have x2 := HT.out.len
            have x3 := HPL.out
            have x4 := HT.out.num
            have x5 := HCL.out
            constructor
            · rw [List.length_append, List.length_append]; omega
            · omega
          clear hq hqt hqm hqg hG2 hG3 hq2 hq3 hb3 HC1 c0 c1 c4 hcell
          go_wp2_with fail
          refine (HAL2.out _ c13).mono ?_
          rintro e w3 ⟨rfl, hw3⟩
          subst hw3
          by_cases htk : ty.kind = k
          · rw [decide_eq_true htk]
            obtain ⟨kt, nmt, lt⟩ := ty
            simp only at htk
            subst htk
            have hpc : Ex.pieces kt ⟨kt, nmt, lt⟩ = lt := by unfold Ex.pieces; rw [if_pos rfl]
            rw [hpc] at HNEXT HBUD
            have hk5 : 5 ≤ kt := by have := HK.out; omega
            obtain ⟨gq, oq, capq, hqs, hqc⟩ : ∃ gq oq capq, (Value.slice pa pb pc) = .slice (some ⟨gq, oq, none⟩) lt.length capq ∧ lt.length ≤ capq := by
              have := HQ3.out
              rw [IsTv.def] at this
              rcases this.2.2 with h1 | ⟨_, gq, oq, capq, h1, h2, _⟩
              · omega
              · exact ⟨gq, oq, capq, h1, h2⟩
            simp only [Value.slice.injEq] at hqs
            obtain ⟨rfl, rfl, rfl⟩ := hqs
            have HPART : Hid (∀ z, z ∈ lt → Ex.Td z ∧ z.kind ≠ kt) := fun z hz => by
              have := HTT.out.parts z hz
              exact ⟨this.1, this.2.2⟩
            obtain ⟨w3, hw3⟩ : ∃ w3, w3 = w2.alloc (.cells #[.iface t1 y1, .int .i64 (n' : Int), .slice (some ⟨gq, oq, none⟩) lt.length pc] 130) := ⟨_, rfl⟩
            have hlM : lt.length ≤ 1000000 := by have := HBUD.out.1; omega
            have HW3 := hide hw3
            rw [← hw3] at HG3 HQ3 HNEXT hgl3
            clear hpc hw3 c13 HAL2 HF3
            go_wp2_with fail
            rw [← HW3.out]
            go_loopw [43] (fun i wi => ∃ a : Nat, a ≤ lt.length ∧ i = .int .i64 (a : Int) ∧ ∃ more3 U3 d3 pv3, Hid (Tk ok B C mb gb sb kt (tb ++ more ++ more2) (L ++ ((l.take j).map fun x => Ex.sq kt x).flatten ++ lt.take a) a (U'.length + a) pv' w3 more3 U3 d3 pv3 wi) ∧ Hid (IsTv (okp ok C pv3) (tb ++ more ++ more2 ++ more3) wi ⟨kt, nmt, lt⟩ (.iface t1 y1) n' (.slice (some ⟨gq, oq, none⟩) lt.length pc))) (fun i _ => lt.length - (intOf i).toNat)
            case atStart => exact ⟨0, Nat.zero_le _, rfl, [], U', false, pv', ⟨by rw [List.append_nil]; exact HG3.out, by simpa using HT.out.gth, by simp, by simp, Gf.refl _ _ _ _ _⟩, by show IsTv _ _ _ _ _ _ _; rw [List.append_nil]; exact HQ3.out⟩
            case round =>
              obtain ⟨a, ha, rfl, more3, U3, d3, pv3, HTI, HQI⟩ := hrel
              by_cases hal : a < lt.length
              · have hpa : lt[a]? = some lt[a] := List.getElem?_eq_getElem hal
                have hzm : lt[a] ∈ lt := List.getElem_mem hal
                obtain ⟨u, m, qv, s0, s1, s2, hz⟩ : ∃ (u : Value) (m : Nat) (qv : Value), wr.cell? ⟨gq, oq + a * 3, none⟩ = some u ∧ wr.cell? ⟨gq, oq + a * 3 + 1, none⟩ = some (.int .i64 (m : Int)) ∧ wr.cell? ⟨gq, oq + a * 3 + 2, none⟩ = some qv ∧ IsTv (okp ok C pv3) (tb ++ more ++ more2 ++ more3) wr lt[a] u m qv := by
                  have := HQI.out
                  rw [IsTv.def] at this
                  rcases this.2.2 with h1 | ⟨_, gq', oq', capq', h1, _, _, h7⟩
                  · omega
                  · simp only [Value.slice.injEq, Option.some.injEq, Addr.mk.injEq] at h1
                    obtain ⟨⟨rfl, rfl, _⟩, _, _⟩ := h1
                    exact h7 a lt[a] hpa
                obtain ⟨t2, y2, e1⟩ := IsEx.iface _ _ hz.ex
                obtain ⟨pd, pe, pf, e2⟩ := hz.slice
                subst e1 e2
                have hbi : Below wr.heap.size wr (wr.alloc (.cells #[.iface t2 y2, .int .i64 (m : Int), .slice pd pe pf] 130)) := (Below.refl _ _).alloc (Nat.le_refl _) _
                have HGI := hide (HTI.out.gs.below hbi)
                have HZI : Hid (IsTv (okp ok C pv3) (tb ++ more ++ more2 ++ more3) (wr.alloc (.cells #[.iface t2 y2, .int .i64 (m : Int), .slice pd pe pf] 130)) lt[a] (.iface t2 y2) m (.slice pd pe pf)) := by
                  have := IsTv.stay [] (Stay.below hbi) (fun _ h => h) lt[a] _ m _ hz
                  rwa [List.append_nil] at this
                have HQ4 : Hid (IsTv (okp ok C pv3) (tb ++ more ++ more2 ++ more3) (wr.alloc (.cells #[.iface t2 y2, .int .i64 (m : Int), .slice pd pe pf] 130)) ⟨kt, nmt, lt⟩ (.iface t1 y1) n' (.slice (some ⟨gq, oq, none⟩) lt.length pc)) := by
                  have := IsTv.stay [] (Stay.below hbi) (fun _ h => h) _ _ n' _ HQI.out
                  rwa [List.append_nil] at this
                have HCA := hide (add_any ok B C mb gb sb kt HK.out (tb ++ more ++ more2 ++ more3) U3 d3 pv3 lt[a] (.iface t2 y2) m (.slice pd pe pf) _ HGI.out (by have := HBUD.out.1; have := HTI.out.len; rw [List.length_append]; omega) (by have := HBUD.out.2; have := HTI.out.num; omega) HZI.out (HPART.out _ hzm).1 (HPART.out _ hzm).2)
                have HNI : Hid (∀ wi, Added ok B C mb gb sb kt (tb ++ more ++ more2 ++ more3) U3 d3 pv3 lt[a] (wr.alloc (.cells #[.iface t2 y2, .int .i64 (m : Int), .slice pd pe pf] 130)) (.returned (.tuple #[])) wi → ∃ more3 U3 d3 pv3, Hid (Tk ok B C mb gb sb kt (tb ++ more ++ more2) (L ++ ((l.take j).map fun x => Ex.sq kt x).flatten ++ lt.take (a + 1)) (a + 1) (U'.length + (a + 1)) pv' w3 more3 U3 d3 pv3 wi) ∧ Hid (IsTv (okp ok C pv3) (tb ++ more ++ more2 ++ more3) wi ⟨kt, nmt, lt⟩ (.iface t1 y1) n' (.slice (some ⟨gq, oq, none⟩) lt.length pc))) := by
                  rintro wi ⟨_, more4, pv4, g1, g2, g3⟩
                  have x1 := HTI.out.len
                  have x2 := HTI.out.num
                  have x3 := Ex.addS_len kt U3 d3 lt[a]
                  have e4 : tb ++ more ++ more2 ++ (more3 ++ more4) = tb ++ more ++ more2 ++ more3 ++ more4 := by simp
                  refine ⟨more3 ++ more4, _, _, pv4, ⟨by rw [e4]; exact g1, ?_, by rw [List.length_append]; omega, by omega, HTI.out.gf.trans ((Gf.below hbi).trans g3)⟩, ?_⟩
                  · rw [List.take_succ_eq_append_getElem hal, ← List.append_assoc]
                    refine HTI.out.gth.step lt[a] (fun z hz => ?_) (HPART.out _ hzm).1
                    rcases List.mem_append.1 hz with hz | hz
                    · exact HLJ.out z hz
                    · exact (HPART.out z (List.mem_of_mem_take hz)).1
                  · show IsTv _ _ _ _ _ _ _
                    rw [e4]
                    exact HGI.out.keep g3 more4 HQ4.out
                have hql : gq < wr.heap.size := World.block_lt_of_cell? _ _ s0
                clear hz hbi hpa hzm HGI HZI HQ4
                go_wp2_with fail
                refine HCA.out.mono ?_
                intro e wi hadd
                have hreli := HNI.out wi (by rw [← hadd.1]; exact hadd)
                obtain ⟨rfl, _⟩ := hadd
                go_wp2_with fail
                go_roundw
                case rel => exact ⟨a + 1, by omega, by go_num, hreli⟩
                case measure => simp [intOf]; omega
              · have han : a = lt.length := by omega
                have hrel4 := HNEXT.out more3 U3 d3 pv3 wr HTI.out.gs (by
                  have := HTI.out.gth
                  rwa [show lt.take a = lt from List.take_of_length_le (by omega)] at this) (by have := HTI.out.len; omega) (by have := HTI.out.num; omega) HTI.out.gf
                go_wp2_with fail
                go_roundw
                case rel => exact ⟨j + 1, by omega, by go_num, hrel4⟩
                case measure => simp [intOf]; omega
          · rw [decide_eq_false htk]
            have hpc : Ex.pieces k ty = [ty] := by unfold Ex.pieces; rw [if_neg htk]
            have hbud := HBUD.out
            rw [hpc] at hbud HNEXT
            simp only [List.length_cons, List.length_nil] at hbud HNEXT
            have HC4 := hide (add_any ok B C mb gb sb k HK.out (tb ++ more ++ more2) U' false pv' ty (.iface t1 y1) n' (.slice pa pb pc) _ HG3.out (by omega) (by omega) HQ3.out HTT.out htk)
            have HN4 : Hid (∀ w4, Added ok B C mb gb sb k (tb ++ more ++ more2) U' false pv' ty (w2.alloc (.cells #[.iface t1 y1, .int .i64 (n' : Int), .slice pa pb pc] 130)) (.returned (.tuple #[])) w4 → ∃ more U' d' pv', Hid (Tk ok B C mb gb sb k tb (L ++ ((l.take (j + 1)).map fun x => Ex.sq k x).flatten) (costL (l.take (j + 1))) (U.length + costL (l.take (j + 1))) pv w more U' d' pv' w4)) := by
              rintro w4 ⟨_, more3, pv3, g1, g2, g3⟩
              exact HNEXT.out more3 _ _ pv3 w4 g1 (HT.out.gth.step ty HLJ.out HTT.out) g2 (Ex.addS_len _ _ _ _) g3
            clear hbud HNEXT hpc
            go_wp2_with fail
            refine HC4.out.mono ?_
            intro e w4 hadd
            have hrel4 := HN4.out w4 (by rw [← hadd.1]; exact hadd)
            obtain ⟨rfl, _⟩ := hadd
            go_wp2_with fail
            go_roundw
            case rel => exact ⟨j + 1, by omega, by go_num, hrel4⟩
            case measure => simp [intOf]; omega
    · have hjn : j = n := by omega
      have HEND : Hid (TdTaken ok B C mb gb sb k tb (L ++ (l.map fun x => Ex.sq k x).flatten) (costL l) (U.length + costL l) pv w (.returned (.tuple #[])) wr) := by
        have e : l.take j = l := List.take_of_length_le (by rw [← HN.out]; omega)
        have := HT.out
        rw [e] at this
        exact ⟨rfl, more, U', d', pv', this.gs, this.gth, this.len, this.num, this.gf⟩
      go_wp2_with fail
      go_end0
      exact HEND.out
end
section
open Go.RowKit Go.Maps
/-- what whole comes to: B is where the list's own memory begins -/
def Wholed (ok : Nat → Prop) (B mb : Nat) (tb : List (List UInt8)) (x : Ex) (w : World) (e : Ending) (w' : World) : Prop :=
  ∃ (v : Value) (n : Nat) (pv : Value) (more : List (List UInt8)), e = .returned (.agg #[v, .int .i64 (n : Int), pv]) ∧ IsTv (fun g => ok g ∨ B ≤ g) (tb ++ more) w' x v n pv ∧ Tbl mb (tb ++ more) w' ∧ more.length ≤ 1 ∧ w.grownBy w' (some mb)
theorem Made.wholed {ok : Nat → Prop} {B mb : Nat} {tb : List (List UInt8)} {x : Ex} {w : World} {e : Ending} {w' : World} (h : Made ok mb tb 1 x w e w') (hB : B ≤ w.heap.size) : Wholed ok B mb tb x w e w' := by
  obtain ⟨v, n, pv, more, he, hx, ht, hm, hg⟩ := h
  refine ⟨v, n, pv, more, he, hx.mono fun g hgo => ?_, ht, hm, hg⟩
  rcases hgo with h1 | h1
  · exact .inl h1
  · exact .inr (Nat.le_trans hB h1)
section
variable {ok : Nat → Prop} {B C mb gb sb k : Nat} {tb more : List (List UInt8)} {U : List Ex} {d : Bool} {pv : Value} {w w5 : World} {ts : List (Value × Nat × Value)} {g cap : Nat}
/-- the row's cells -/
theorem row_cells (ho : w.ownsRow C 130 3 (.slice (some ⟨g, 0, none⟩) U.length cap) U.length (tflat3 ts)) (hl : ts.length = U.length) (i : Nat) (t : Value × Nat × Value) (hi : ts[i]? = some t) :
    w.cell? ⟨g, i * 3, none⟩ = some t.1 ∧ w.cell? ⟨g, i * 3 + 1, none⟩ = some (.int .i64 (t.2.1 : Int)) ∧ w.cell? ⟨g, i * 3 + 2, none⟩ = some t.2.2 := by
  obtain ⟨h1, h2, h3⟩ := flat3_get ts i t hi
  have hil : i < ts.length := (List.getElem?_eq_some_iff.1 hi).1
  exact ⟨by rw [ho.cellAt (i * 3) (by omega)]; exact h1, by rw [ho.cellAt (i * 3 + 1) (by omega)]; exact h2, by rw [ho.cellAt (i * 3 + 2) (by omega)]; exact h3⟩
theorem row_num (ho : w.ownsRow C 130 3 (.slice (some ⟨g, 0, none⟩) U.length cap) U.length (tflat3 ts)) (hl : ts.length = U.length) {okx : Nat → Prop} (hxs : ∀ (i : Nat) (x : Ex) (t : Value × Nat × Value), U[i]? = some x → ts[i]? = some t → IsTv okx tb w x t.1 t.2.1 t.2.2) : RowN w g 0 (ts.map fun t => t.2.1) := by
  intro i m hi
  rw [List.getElem?_map] at hi
  cases ht : ts[i]? with
  | none => rw [ht] at hi; simp at hi
  | some t =>
    rw [ht] at hi
    simp only [Option.map_some, Option.some.injEq] at hi
    subst hi
    have hil : i < ts.length := (List.getElem?_eq_some_iff.1 ht).1
    have hx := hxs i U[i] t (List.getElem?_eq_getElem (by omega)) ht
    obtain ⟨tu, yu, e1⟩ := IsEx.iface _ _ hx.ex
    obtain ⟨a, b, c, e2⟩ := hx.slice
    obtain ⟨c1, c2, c3⟩ := row_cells ho hl i t ht
    exact ⟨tu, yu, a, b, c, by rw [Nat.zero_add, c1, e1], by rw [Nat.zero_add, c2], by rw [Nat.zero_add, c3, e2]⟩
theorem isTv_list (h : Gs ok B C mb gb sb k tb U d pv w) (hk : k = 6 ∨ k = 7) (hN : 2 ≤ U.length) (hNm : U.length ≤ 1000000) (hl : ts.length = U.length) (hpv : pv = .slice (some ⟨g, 0, none⟩) U.length cap) (ho : w.ownsRow C 130 3 pv U.length (tflat3 ts)) (hxs : ∀ (i : Nat) (x : Ex) (t : Value × Nat × Value), U[i]? = some x → ts[i]? = some t → IsTv (okp ok C pv) tb w x t.1 t.2.1 t.2.2)
    (hg : w.grownBy w5 (some mb)) {m mk T : Nat} (hm : (tb ++ more)[m]? = some (cat (Ex.sign k) (ts.map fun t => t.2.1))) (hmk : C ≤ mk) (hc : ∀ (i : Nat) (t : Value × Nat × Value), ts[i]? = some t → w5.cell? ⟨mk, i, none⟩ = some t.1) (hT : T = if k = 6 then 169 else 171) :
    IsTv (fun g => ok g ∨ C ≤ g) (tb ++ more) w5 ⟨k, [], U⟩ (.iface T (.slice (some ⟨mk, 0, none⟩) U.length U.length)) m pv := by
  have hx5 : ∀ (i : Nat) (x : Ex) (t : Value × Nat × Value), U[i]? = some x → ts[i]? = some t → IsTv (fun g => ok g ∨ C ≤ g) (tb ++ more) w5 x t.1 t.2.1 t.2.2 := fun i x t hi hti =>
    IsTv.stay more (Stay.turned _ h.tbl hg) (fun g hgo => hgo.1) x _ _ _ (hxs i x t hi hti)
  rw [IsTv.def]
  refine ⟨?_, ?_, .inr ⟨by omega, g, 0, cap, hpv, ?_, .inr ?_, ?_⟩⟩
  · have hlist : IsList (fun g => ok g ∨ C ≤ g) w5 T U.length (U.map fun x => IsEx (fun g => ok g ∨ C ≤ g) w5 x) (.iface T (.slice (some ⟨mk, 0, none⟩) U.length U.length)) := by
      refine ⟨hN, by omega, mk, U.length, rfl, Nat.le_refl _, .inr hmk, ?_⟩
      intro i P hP
      rw [List.getElem?_map] at hP
      cases hi : U[i]? with
      | none => rw [hi] at hP; simp at hP
      | some x =>
        rw [hi] at hP
        simp only [Option.map_some, Option.some.injEq] at hP
        have hil : i < U.length := (List.getElem?_eq_some_iff.1 hi).1
        have hti : ts[i]? = some (ts[i]'(by omega)) := List.getElem?_eq_getElem (by omega)
        exact ⟨_, hc i _ hti, by rw [← hP]; exact (hx5 i x _ hi hti).ex⟩
    rcases hk with rfl | rfl
    · simp only [IsEx]; rw [hT] at hlist ⊢; exact ⟨by trivial, hlist⟩
    · simp only [IsEx]; rw [hT] at hlist ⊢; exact ⟨by trivial, hlist⟩
  · rw [Ex.Num.def]
    refine ⟨ts.map fun t => t.2.1, by simpa using hl, ?_, ?_⟩
    · intro i y j hy hj
      rw [List.getElem?_map] at hj
      cases hti : ts[i]? with
      | none => rw [hti] at hj; simp at hj
      | some t =>
        rw [hti] at hj
        simp only [Option.map_some, Option.some.injEq] at hj
        rw [← hj]
        exact (hx5 i y t hy hti).num
    · rw [hm]; unfold Ex.code; rw [if_neg (by omega)]
  · rw [hpv] at ho
    rcases ho.2 with ⟨e, _⟩ | ⟨g', cap', cur, e, _, _, hn, _⟩
    · simp at e
    · simp only [Value.slice.injEq] at e
      rw [e.2.2]; exact hn
  · exact (ho.lt g (by rw [hpv]; rfl)).1
  · intro i y hy
    have hil : i < U.length := (List.getElem?_eq_some_iff.1 hy).1
    have hti : ts[i]? = some (ts[i]'(by omega)) := List.getElem?_eq_getElem (by omega)
    rw [hpv] at ho
    obtain ⟨c1, c2, c3⟩ := row_cells ho hl i _ hti
    rw [Nat.zero_add]
    exact ⟨_, _, _, cell_turned h.tbl hg c1, cell_turned h.tbl hg c2, cell_turned h.tbl hg c3, hx5 i y _ hy hti⟩
end
theorem IsEx.const {ok : Nat → Prop} {w : World} (b : Bool) : IsEx ok w ⟨if b then 1 else 0, [], []⟩ (.iface 132 (.bool b)) := by cases b <;> simp [IsEx]
set_option maxHeartbeats 4000000 in
set_option maxRecDepth 100000 in
theorem whole_const (ok : Nat → Prop) (B C mb gb sb k : Nat) (hk : k = 6 ∨ k = 7) (tb : List (List UInt8)) (U : List Ex) (d : Bool) (pv : Value) (w : World) (h : Gs ok B C mb gb sb k tb U d pv w) (hl : tb.length < 1000000) (hd : d = true ∨ U = []) :
    Calls Tryz.prog 125 #[.pointer (some ⟨gb, 0, none⟩)] w (Made ok mb tb 1 (if d = true then ⟨Ex.allK k, [], []⟩ else ⟨Ex.noneK k, [], []⟩) w) := by
  obtain ⟨w1, hw1⟩ : ∃ w1, w1 = w.alloc (.cells #[.nilIface, .int .i64 0, .slice none 0 0] 130) := ⟨_, rfl⟩
  have hb1 : Below w.heap.size w w1 := by rw [hw1]; exact (Below.refl _ _).alloc (Nat.le_refl _) _
  have hr1 : w1.heap[w.heap.size]? = some (.cells #[.nilIface, .int .i64 0, .slice none 0 0] 130 (0, 0)) := by rw [hw1]; exact heap_alloc_new w _
  have hs1 : w1.heap.size = w.heap.size + 1 := by rw [hw1]; simp
  have h1 := h.below hb1
  have e0 := h1.c0
  have e1 := h1.c1
  have e2 := h1.c2
  have e4 := h1.c4
  have hlt := h.lt
  have hpv : d = false → pv = .slice none 0 0 ∨ ∃ a c, pv = .slice (some a) 0 c := by
    intro hf
    have hU : U = [] := by rcases hd with e | e; · rw [hf] at e; cases e
                           · exact e
    subst hU
    obtain ⟨ts, _, ho, _⟩ := h.rows
    rcases ho.2 with ⟨hv, hn⟩ | ⟨g, cap, cur, hv, _⟩
    · exact .inl hv
    · exact .inr ⟨_, _, hv⟩
  have hok : ∀ g, ok g → g < w.heap.size := fun g hg => by have := h.okB g hg; have := h.gbB; omega
  have HL : Hid (∀ b : Bool, Calls Tryz.prog 87 #[.agg #[.map (some mb)], .iface 132 (.bool b)] w1.drew (Made ok mb tb 1 ⟨if b then 1 else 0, [], []⟩ w1.drew)) := fun b => leaf_any ok mb tb ⟨if b then 1 else 0, [], []⟩ _ w1.drew (h.tbl.kept (row := none) (grown_of_below hb1.drew _) (by simp)) hl (IsEx.const b) (by cases b <;> simp) rfl (by cases b <;> simp [Ex.text])
  have HEND : Hid (∀ (y : Ex) (e : Ending) (w4 : World), Made ok mb tb 1 y w1.drew e w4 → ∃ v' n' pv', e = .returned (.agg #[v', .int .i64 (n' : Int), pv']) ∧ (∃ tu yu, v' = .iface tu yu) ∧ (∃ a b c, pv' = .slice a b c) ∧ (w4.cell? ⟨gb, 0, none⟩ = some (.map (some mb)) ∧ w4.cell? ⟨gb, 1, none⟩ = some (.bool (decide (k = 6)))) ∧ Hid (w4.heap[w.heap.size]? = some (.cells #[.nilIface, .int .i64 0, .slice none 0 0] 130 (0, 0))) ∧ Hid (Made ok mb tb 1 y w e (((w4.setCell ⟨w.heap.size, 0, none⟩ v').setCell ⟨w.heap.size, 1, none⟩ (.int .i64 (n' : Int))).setCell ⟨w.heap.size, 2, none⟩ pv'))) := by
    intro y e w4 hm
    have hput := hm.put_after (grown_of_below hb1.drew _) (Nat.le_refl _) (by show w.heap.size < w1.heap.size; omega) h.tbl hok (Nat.le_refl _)
    obtain ⟨v', n', pv', more, rfl, hq, _, _, hgr⟩ := hm
    obtain ⟨tu, yu, hiu⟩ := IsEx.iface _ v' hq.ex
    obtain ⟨pa, pb, pc, hps⟩ := hq.slice
    have hmb := h.tbl.lt
    exact ⟨v', n', pv', rfl, ⟨tu, yu, hiu⟩, ⟨pa, pb, pc, hps⟩, ⟨cell_turned (h.tbl.kept (row := none) (grown_of_below hb1.drew _) (by simp)) hgr e0, cell_turned (h.tbl.kept (row := none) (grown_of_below hb1.drew _) (by simp)) hgr e1⟩, (hgr.block w.heap.size (by show w.heap.size < w1.heap.size; omega) (by simp; omega)).trans hr1, hput _ _ _⟩
  have HW1 := hide hw1
  rw [hw1] at e4
  clear hw1 hr1 hb1 h1 h hok
  cases d with
  | true =>
    rw [if_pos rfl]
    clear hpv e2 hd
    rcases hk with rfl | rfl
    · simp only [decide_true] at e1 HEND
      go_enter Tryz.func125, Tryz.ntmps125
      go_wp2_with fail
      rw [← HW1.out]
      go_region_held3 (fun W => W.cell? ⟨gb, 0, none⟩ = some (.map (some mb)) ∧ W.cell? ⟨gb, 1, none⟩ = some (.bool true)) ((first | go_keep | (refine ⟨?_, ?_⟩ <;> (repeat (rw [World.cell?_setCell_far _ _ _ _ (by dsimp only; omega)])) <;> assumption)))
        ((go_at_call 87; refine (HL.out false).mono ?_; rintro e w4 hm; obtain ⟨v', n', pv', rfl, ⟨tu, yu, rfl⟩, ⟨pa, pb, pc, rfl⟩, ⟨z0, z1⟩, HR4, HM4⟩ := HEND.out _ _ _ hm; have d0 : w4.cell? ⟨w.heap.size, 0, none⟩ = some .nilIface := (by rw [Lib.cell_of_heap HR4.out]; rfl); have d1 : w4.cell? ⟨w.heap.size, 1, none⟩ = some (.int .i64 0) := (by rw [Lib.cell_of_heap HR4.out]; rfl); have d2 : w4.cell? ⟨w.heap.size, 2, none⟩ = some (.slice none 0 0) := (by rw [Lib.cell_of_heap HR4.out]; rfl); have g0 := Lib.frozen_of_heap HR4.out 0; have g1 := Lib.frozen_of_heap HR4.out 1; have g2 := Lib.frozen_of_heap HR4.out 2))
      all_goals go_wp2_with fail
      all_goals
        refine bodyPost_ret_by (v := .agg #[.iface tu yu, .int .i64 (n' : Int), .slice pa pb pc]) ?_ rfl HM4.out
        obtain ⟨q0, q1, q2⟩ := three_out HR4.out (.iface tu yu) (.int .i64 (n' : Int)) (.slice pa pb pc)
        simp [results, Tryz.results125, go_sem, q0, q1, q2]
    · simp only [show decide (7 = 6) = false from rfl] at e1 HEND
      go_enter Tryz.func125, Tryz.ntmps125
      go_wp2_with fail
      rw [← HW1.out]
      go_region_held3 (fun W => W.cell? ⟨gb, 0, none⟩ = some (.map (some mb)) ∧ W.cell? ⟨gb, 1, none⟩ = some (.bool false)) ((first | go_keep | (refine ⟨?_, ?_⟩ <;> (repeat (rw [World.cell?_setCell_far _ _ _ _ (by dsimp only; omega)])) <;> assumption)))
        ((go_at_call 87; refine (HL.out true).mono ?_; rintro e w4 hm; obtain ⟨v', n', pv', rfl, ⟨tu, yu, rfl⟩, ⟨pa, pb, pc, rfl⟩, ⟨z0, z1⟩, HR4, HM4⟩ := HEND.out _ _ _ hm; have d0 : w4.cell? ⟨w.heap.size, 0, none⟩ = some .nilIface := (by rw [Lib.cell_of_heap HR4.out]; rfl); have d1 : w4.cell? ⟨w.heap.size, 1, none⟩ = some (.int .i64 0) := (by rw [Lib.cell_of_heap HR4.out]; rfl); have d2 : w4.cell? ⟨w.heap.size, 2, none⟩ = some (.slice none 0 0) := (by rw [Lib.cell_of_heap HR4.out]; rfl); have g0 := Lib.frozen_of_heap HR4.out 0; have g1 := Lib.frozen_of_heap HR4.out 1; have g2 := Lib.frozen_of_heap HR4.out 2))
      all_goals go_wp2_with fail
      all_goals
        refine bodyPost_ret_by (v := .agg #[.iface tu yu, .int .i64 (n' : Int), .slice pa pb pc]) ?_ rfl HM4.out
        obtain ⟨q0, q1, q2⟩ := three_out HR4.out (.iface tu yu) (.int .i64 (n' : Int)) (.slice pa pb pc)
        simp [results, Tryz.results125, go_sem, q0, q1, q2]
  | false =>
    rw [if_neg (by simp)]
    have hpv' := hpv rfl
    rw [HW1.out] at e2
    clear hpv hd
    rcases hpv' with rfl | ⟨a, c, rfl⟩
    · rcases hk with rfl | rfl
      · simp only [decide_true] at e1 HEND
        go_enter Tryz.func125, Tryz.ntmps125
        go_wp2_with fail
        rw [← HW1.out]
        go_region_held3 (fun W => W.cell? ⟨gb, 0, none⟩ = some (.map (some mb)) ∧ W.cell? ⟨gb, 1, none⟩ = some (.bool true)) ((first | go_keep | (refine ⟨?_, ?_⟩ <;> (repeat (rw [World.cell?_setCell_far _ _ _ _ (by dsimp only; omega)])) <;> assumption)))
          ((go_at_call 87; refine (HL.out true).mono ?_; rintro e w4 hm; obtain ⟨v', n', pv', rfl, ⟨tu, yu, rfl⟩, ⟨pa, pb, pc, rfl⟩, ⟨z0, z1⟩, HR4, HM4⟩ := HEND.out _ _ _ hm; have d0 : w4.cell? ⟨w.heap.size, 0, none⟩ = some .nilIface := (by rw [Lib.cell_of_heap HR4.out]; rfl); have d1 : w4.cell? ⟨w.heap.size, 1, none⟩ = some (.int .i64 0) := (by rw [Lib.cell_of_heap HR4.out]; rfl); have d2 : w4.cell? ⟨w.heap.size, 2, none⟩ = some (.slice none 0 0) := (by rw [Lib.cell_of_heap HR4.out]; rfl); have g0 := Lib.frozen_of_heap HR4.out 0; have g1 := Lib.frozen_of_heap HR4.out 1; have g2 := Lib.frozen_of_heap HR4.out 2))
        all_goals go_wp2_with fail
        all_goals
          refine bodyPost_ret_by (v := .agg #[.iface tu yu, .int .i64 (n' : Int), .slice pa pb pc]) ?_ rfl HM4.out
          obtain ⟨q0, q1, q2⟩ := three_out HR4.out (.iface tu yu) (.int .i64 (n' : Int)) (.slice pa pb pc)
          simp [results, Tryz.results125, go_sem, q0, q1, q2]
      · simp only [show decide (7 = 6) = false from rfl] at e1 HEND
        go_enter Tryz.func125, Tryz.ntmps125
        go_wp2_with fail
        rw [← HW1.out]
        go_region_held3 (fun W => W.cell? ⟨gb, 0, none⟩ = some (.map (some mb)) ∧ W.cell? ⟨gb, 1, none⟩ = some (.bool false)) ((first | go_keep | (refine ⟨?_, ?_⟩ <;> (repeat (rw [World.cell?_setCell_far _ _ _ _ (by dsimp only; omega)])) <;> assumption)))
          ((go_at_call 87; refine (HL.out false).mono ?_; rintro e w4 hm; obtain ⟨v', n', pv', rfl, ⟨tu, yu, rfl⟩, ⟨pa, pb, pc, rfl⟩, ⟨z0, z1⟩, HR4, HM4⟩ := HEND.out _ _ _ hm; have d0 : w4.cell? ⟨w.heap.size, 0, none⟩ = some .nilIface := (by rw [Lib.cell_of_heap HR4.out]; rfl); have d1 : w4.cell? ⟨w.heap.size, 1, none⟩ = some (.int .i64 0) := (by rw [Lib.cell_of_heap HR4.out]; rfl); have d2 : w4.cell? ⟨w.heap.size, 2, none⟩ = some (.slice none 0 0) := (by rw [Lib.cell_of_heap HR4.out]; rfl); have g0 := Lib.frozen_of_heap HR4.out 0; have g1 := Lib.frozen_of_heap HR4.out 1; have g2 := Lib.frozen_of_heap HR4.out 2))
        all_goals go_wp2_with fail
        all_goals
          refine bodyPost_ret_by (v := .agg #[.iface tu yu, .int .i64 (n' : Int), .slice pa pb pc]) ?_ rfl HM4.out
          obtain ⟨q0, q1, q2⟩ := three_out HR4.out (.iface tu yu) (.int .i64 (n' : Int)) (.slice pa pb pc)
          simp [results, Tryz.results125, go_sem, q0, q1, q2]
    · rcases hk with rfl | rfl
      · simp only [decide_true] at e1 HEND
        go_enter Tryz.func125, Tryz.ntmps125
        go_wp2_with fail
        rw [← HW1.out]
        go_region_held3 (fun W => W.cell? ⟨gb, 0, none⟩ = some (.map (some mb)) ∧ W.cell? ⟨gb, 1, none⟩ = some (.bool true)) ((first | go_keep | (refine ⟨?_, ?_⟩ <;> (repeat (rw [World.cell?_setCell_far _ _ _ _ (by dsimp only; omega)])) <;> assumption)))
          ((go_at_call 87; refine (HL.out true).mono ?_; rintro e w4 hm; obtain ⟨v', n', pv', rfl, ⟨tu, yu, rfl⟩, ⟨pa, pb, pc, rfl⟩, ⟨z0, z1⟩, HR4, HM4⟩ := HEND.out _ _ _ hm; have d0 : w4.cell? ⟨w.heap.size, 0, none⟩ = some .nilIface := (by rw [Lib.cell_of_heap HR4.out]; rfl); have d1 : w4.cell? ⟨w.heap.size, 1, none⟩ = some (.int .i64 0) := (by rw [Lib.cell_of_heap HR4.out]; rfl); have d2 : w4.cell? ⟨w.heap.size, 2, none⟩ = some (.slice none 0 0) := (by rw [Lib.cell_of_heap HR4.out]; rfl); have g0 := Lib.frozen_of_heap HR4.out 0; have g1 := Lib.frozen_of_heap HR4.out 1; have g2 := Lib.frozen_of_heap HR4.out 2))
        all_goals go_wp2_with fail
        all_goals
          refine bodyPost_ret_by (v := .agg #[.iface tu yu, .int .i64 (n' : Int), .slice pa pb pc]) ?_ rfl HM4.out
          obtain ⟨q0, q1, q2⟩ := three_out HR4.out (.iface tu yu) (.int .i64 (n' : Int)) (.slice pa pb pc)
          simp [results, Tryz.results125, go_sem, q0, q1, q2]
      · simp only [show decide (7 = 6) = false from rfl] at e1 HEND
        go_enter Tryz.func125, Tryz.ntmps125
        go_wp2_with fail
        rw [← HW1.out]
        go_region_held3 (fun W => W.cell? ⟨gb, 0, none⟩ = some (.map (some mb)) ∧ W.cell? ⟨gb, 1, none⟩ = some (.bool false)) ((first | go_keep | (refine ⟨?_, ?_⟩ <;> (repeat (rw [World.cell?_setCell_far _ _ _ _ (by dsimp only; omega)])) <;> assumption)))
          ((go_at_call 87; refine (HL.out false).mono ?_; rintro e w4 hm; obtain ⟨v', n', pv', rfl, ⟨tu, yu, rfl⟩, ⟨pa, pb, pc, rfl⟩, ⟨z0, z1⟩, HR4, HM4⟩ := HEND.out _ _ _ hm; have d0 : w4.cell? ⟨w.heap.size, 0, none⟩ = some .nilIface := (by rw [Lib.cell_of_heap HR4.out]; rfl); have d1 : w4.cell? ⟨w.heap.size, 1, none⟩ = some (.int .i64 0) := (by rw [Lib.cell_of_heap HR4.out]; rfl); have d2 : w4.cell? ⟨w.heap.size, 2, none⟩ = some (.slice none 0 0) := (by rw [Lib.cell_of_heap HR4.out]; rfl); have g0 := Lib.frozen_of_heap HR4.out 0; have g1 := Lib.frozen_of_heap HR4.out 1; have g2 := Lib.frozen_of_heap HR4.out 2))
        all_goals go_wp2_with fail
        all_goals
          refine bodyPost_ret_by (v := .agg #[.iface tu yu, .int .i64 (n' : Int), .slice pa pb pc]) ?_ rfl HM4.out
          obtain ⟨q0, q1, q2⟩ := three_out HR4.out (.iface tu yu) (.int .i64 (n' : Int)) (.slice pa pb pc)
          simp [results, Tryz.results125, go_sem, q0, q1, q2]
set_option maxHeartbeats 4000000 in
set_option maxRecDepth 100000 in
theorem whole_one (ok : Nat → Prop) (B C mb gb sb k : Nat) (tb : List (List UInt8)) (y : Ex) (pv : Value) (w : World) (h : Gs ok B C mb gb sb k tb [y] false pv w) :
    Calls Tryz.prog 125 #[.pointer (some ⟨gb, 0, none⟩)] w (Wholed ok C mb tb y w) := by
  obtain ⟨ts, hl, ho, hxs, _⟩ := h.rows
  obtain ⟨t, hts⟩ : ∃ t, ts = [t] := by
    match ts, hl with
    | [t], _ => exact ⟨t, rfl⟩
  subst hts
  have hx := hxs 0 y t rfl rfl
  obtain ⟨v, n, q⟩ := t
  obtain ⟨tu, yu, e1⟩ := IsEx.iface _ _ hx.ex
  obtain ⟨pa, pb, pc, e2⟩ := hx.slice
  simp only at e1 e2
  subst e1 e2
  obtain ⟨g, cap, hpv⟩ : ∃ g cap, pv = .slice (some ⟨g, 0, none⟩) 1 cap := by
    rcases ho.2 with ⟨_, hn⟩ | ⟨g, cap, cur, hv, _⟩
    · simp at hn
    · exact ⟨g, cap, hv⟩
  subst hpv
  obtain ⟨r0, r1, r2⟩ := row_cells (U := [y]) ho hl 0 _ rfl
  have hgl : g < w.heap.size := World.block_lt_of_cell? _ _ r0
  obtain ⟨w1, hw1⟩ : ∃ w1, w1 = w.alloc (.cells #[.nilIface, .int .i64 0, .slice none 0 0] 130) := ⟨_, rfl⟩
  have hb1 : Below w.heap.size w w1 := by rw [hw1]; exact (Below.refl _ _).alloc (Nat.le_refl _) _
  have a2 := (h.below hb1).c2
  have a4 := (h.below hb1).c4
  have s0 := (hb1.cell (p := ⟨g, 0 * 3, none⟩) hgl).trans r0
  have s1 := (hb1.cell (p := ⟨g, 0 * 3 + 1, none⟩) hgl).trans r1
  have s2 := (hb1.cell (p := ⟨g, 0 * 3 + 2, none⟩) hgl).trans r2
  simp only [Nat.zero_mul, Nat.zero_add] at s0 s1 s2
  have hbf : Below w.heap.size w (w.alloc (.cells #[.iface tu yu, .int .i64 (n : Int), .slice pa pb pc] 130)) := (Below.refl _ _).alloc (Nat.le_refl _) _
  have HEND : Hid (Wholed ok C mb tb y w (.returned (.agg #[.iface tu yu, .int .i64 (n : Int), .slice pa pb pc])) (w.alloc (.cells #[.iface tu yu, .int .i64 (n : Int), .slice pa pb pc] 130))) := by
    refine ⟨_, n, _, [], rfl, IsTv.stay [] (Stay.below hbf) (fun g hg => hg.1) y _ n _ hx, by rw [List.append_nil]; exact h.tbl.kept (row := none) (grown_of_below hbf _) (by simp), by simp, grown_of_below hbf _⟩
  rw [hw1] at a2 a4 s0 s1 s2
  clear hw1 hb1 hbf h ho hxs hx r0 r1 r2
  go_enter Tryz.func125, Tryz.ntmps125
  go_wp2_with fail
  refine bodyPost_ret_by (v := .agg #[.iface tu yu, .int .i64 (n : Int), .slice pa pb pc]) ?_ rfl HEND.out
  simp [results, Tryz.results125, go_sem]
end
end Go.Proofs.YtdlcelbbelcfkaaGreatDoor
