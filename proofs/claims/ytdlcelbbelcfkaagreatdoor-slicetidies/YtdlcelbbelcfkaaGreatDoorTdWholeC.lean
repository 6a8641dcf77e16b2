/-
  The walk of whole: more parts than one.
-/
import Derived.Test.YtdlcelbbelcfkaaGreatDoorTdWholeAll
namespace Go.Proofs.YtdlcelbbelcfkaaGreatDoor
open Go.RowKit Go.Maps
theorem whole_end {ok : Nat → Prop} {B C mb gb sb k : Nat} {tb more : List (List UInt8)} {U : List Ex} {pv : Value} {w w4 : World} {ts : List (Value × Nat × Value)} {g cap m mk T : Nat} (h : Gs ok B C mb gb sb k tb U false pv w) (hk : k = 6 ∨ k = 7) (hN : 2 ≤ U.length) (hNm : U.length ≤ 1000000) (htl : ts.length = U.length) (hpv : pv = .slice (some ⟨g, 0, none⟩) U.length cap) (ho : w.ownsRow C 130 3 pv U.length (tflat3 ts)) (hxs : ∀ (i : Nat) (x : Ex) (t : Value × Nat × Value), U[i]? = some x → ts[i]? = some t → IsTv (okp ok C pv) tb w x t.1 t.2.1 t.2.2)
    (hgr : w.grownBy w4 (some mb)) (hT4 : Tbl mb (tb ++ more) w4) (hm : (tb ++ more)[m]? = some (cat (Ex.sign k) (ts.map fun t => t.2.1))) (hml : more.length ≤ 1) (hmk : mk = w.heap.size + 1) (hc : ∀ (i : Nat) (t : Value × Nat × Value), ts[i]? = some t → w4.cell? ⟨mk, i, none⟩ = some t.1) (hT : T = if k = 6 then 169 else 171) :
    Wholed ok C mb tb ⟨k, [], U⟩ w (.returned (.agg #[.iface T (.slice (some ⟨mk, 0, none⟩) U.length U.length), .int .i64 (m : Int), pv])) (((w4.setCell ⟨w.heap.size, 0, none⟩ (.iface T (.slice (some ⟨mk, 0, none⟩) U.length U.length))).setCell ⟨w.heap.size, 1, none⟩ (.int .i64 (m : Int))).setCell ⟨w.heap.size, 2, none⟩ pv) := by
  have hk3 := three_kept w4 w.heap.size (.iface T (.slice (some ⟨mk, 0, none⟩) U.length U.length)) (.int .i64 (m : Int)) pv
  have hlt := h.tbl.lt
  have hCw := h.size
  have hgw : w.grownBy (((w4.setCell ⟨w.heap.size, 0, none⟩ (.iface T (.slice (some ⟨mk, 0, none⟩) U.length U.length))).setCell ⟨w.heap.size, 1, none⟩ (.int .i64 (m : Int))).setCell ⟨w.heap.size, 2, none⟩ pv) (some mb) :=
    ⟨hk3.os.trans hgr.os, hk3.tape.trans hgr.tape, hk3.output.trans hgr.output, Nat.le_trans hgr.size hk3.size, fun b hb hne => (hk3.block b (Nat.lt_of_lt_of_le hb hgr.size) (by simp; omega)).trans (hgr.block b hb hne)⟩
  refine ⟨_, m, _, more, rfl, isTv_list h hk hN hNm htl hpv ho hxs hgw hm (by omega) (fun i t hi => hk3.cell (hc i t hi) (by simp; omega)) hT, hT4.kept hk3 (by simp; omega), hml, hgw⟩
theorem made_set (vs : List Value) (N k : Nat) (v z : Value) (hk : vs[k]? = some v) (hN : k < N) : (vs.take k ++ List.replicate (N - k) z).set k v = vs.take (k + 1) ++ List.replicate (N - (k + 1)) z := by
  have hkl : k < vs.length := (List.getElem?_eq_some_iff.1 hk).1
  have e : vs.take (k + 1) = vs.take k ++ [v] := by
    rw [List.take_succ_eq_append_getElem hkl]
    rw [(List.getElem?_eq_some_iff.1 hk).2]
  have hl : (vs.take k).length = k := by rw [List.length_take]; omega
  rw [List.set_append_right _ _ (by omega), hl, Nat.sub_self, e, show N - k = (N - (k + 1)) + 1 by omega, List.replicate_succ]
  simp
set_option maxHeartbeats 8000000 in
set_option maxRecDepth 100000 in
theorem whole_many6 (ok : Nat → Prop) (B C mb gb sb : Nat) (tb : List (List UInt8)) (U : List Ex) (pv : Value) (w : World) (h : Gs ok B C mb gb sb 6 tb U false pv w) (hl : tb.length < 1000000) (hN : 2 ≤ U.length) (hNm : U.length ≤ 1000000) :
    Calls Tryz.prog 125 #[.pointer (some ⟨gb, 0, none⟩)] w (Wholed ok C mb tb ⟨6, [], U⟩ w) := by
  obtain ⟨ts, htl, ho, hxs, _⟩ := h.rows
  obtain ⟨g, cap, hpv⟩ : ∃ g cap, pv = .slice (some ⟨g, 0, none⟩) U.length cap := by
    rcases ho.2 with ⟨_, hn⟩ | ⟨g, cap, cur, hv, _⟩
    · omega
    · exact ⟨g, cap, hv⟩
  obtain ⟨N, hNN⟩ : ∃ N, N = U.length := ⟨_, rfl⟩
  obtain ⟨w1, hw1⟩ : ∃ w1, w1 = w.alloc (.cells #[.nilIface, .int .i64 0, .slice none 0 0] 130) := ⟨_, rfl⟩
  have hb1 : Below w.heap.size w w1 := by rw [hw1]; exact (Below.refl _ _).alloc (Nat.le_refl _) _
  have hr1 : w1.heap[w.heap.size]? = some (.cells #[.nilIface, .int .i64 0, .slice none 0 0] 130 (0, 0)) := by rw [hw1]; exact heap_alloc_new w _
  have hs1 : w1.heap.size = w.heap.size + 1 := by rw [hw1]; simp
  have hgl : g < w.heap.size := (ho.lt g (by rw [hpv]; rfl)).2
  have hlt := h.lt
  have hcap : U.length ≤ cap := by
    rcases ho.2 with ⟨_, hn⟩ | ⟨g', cap', cur, e, _, _, hn, _⟩
    · omega
    · rw [hpv] at e; simp only [Value.slice.injEq] at e; rw [e.2.2]; exact hn
  have hsl : ∀ t, t ∈ ts → (∃ tu yu, t.1 = .iface tu yu) ∧ ∃ a b c, t.2.2 = .slice a b c := by
    intro t ht
    obtain ⟨i, hi, hti⟩ := List.getElem_of_mem ht
    have := hxs i U[i] t (List.getElem?_eq_getElem (by omega)) (by rw [List.getElem?_eq_getElem hi, hti])
    exact ⟨IsEx.iface _ _ this.ex, this.slice⟩
  have HF : Hid (∀ W, Below w1.heap.size w1 W → (W.cell? ⟨gb, 0, none⟩ = some (.map (some mb)) ∧ W.cell? ⟨gb, 1, none⟩ = some (.bool true) ∧ W.cell? ⟨gb, 2, none⟩ = some (.slice (some ⟨g, 0, none⟩) N cap) ∧ W.cell? ⟨gb, 4, none⟩ = some (.bool false)) ∧ W.heap[w.heap.size]? = some (.cells #[.nilIface, .int .i64 0, .slice none 0 0] 130 (0, 0)) ∧ (∀ (i : Nat) (t : Value × Nat × Value), ts[i]? = some t → W.cell? ⟨g, i * 3, none⟩ = some t.1 ∧ W.cell? ⟨g, i * 3 + 1, none⟩ = some (.int .i64 (t.2.1 : Int)) ∧ W.cell? ⟨g, i * 3 + 2, none⟩ = some t.2.2) ∧ Gs ok B C mb gb sb 6 tb U false pv W ∧ w.grownBy W (some mb)) := by
    intro W hW
    have hbW : Below w.heap.size w W := hb1.trans (hW.mono hb1.size)
    have hG := h.below hbW
    refine ⟨⟨hG.c0, by rw [hG.c1]; rfl, by rw [hG.c2, hpv, hNN], hG.c4⟩, (hW.block _ (by omega)).trans hr1, fun i t ht => ?_, hG, grown_of_below hbW _⟩
    rw [hpv] at ho
    obtain ⟨c1, c2, c3⟩ := row_cells ho htl i t ht
    exact ⟨(hbW.cell (p := ⟨g, _, none⟩) hgl).trans c1, (hbW.cell (p := ⟨g, _, none⟩) hgl).trans c2, (hbW.cell (p := ⟨g, _, none⟩) hgl).trans c3⟩
  obtain ⟨⟨a0, a1, a2, a4⟩, _⟩ := HF.out w1 (Below.refl _ _)
  obtain ⟨i0, hi0, hz0, hz1, hz2⟩ := info_parts Tryz.infoExpr
  have HTS : Hid (ts.length = N) := by show _ = _; omega
  have HSL := hide hsl
  have HLN : Hid (2 ≤ N) := by show _ ≤ _; omega
  have HNN := hide hNN
  have HPV := hide hpv
  have HO := hide ho
  have HXS := hide hxs
  have HTL := hide htl
  have HW1 := hide hw1
  have HH := hide h
  have HS1 := hide hs1
  have hNz : ((N : Int) == 0) = false := by simp; omega
  have hN1 : ((N : Int) == 1) = false := by simp; omega
  have hNm' : N ≤ 1000000 := by omega
  have hcap' : N ≤ cap := by omega
  rw [hw1] at a0 a1 a2 a4
  clear hpv ho hxs htl hw1 h hs1 hb1 hr1 hsl hNN hcap hNm hN
  go_enter Tryz.func125, Tryz.ntmps125
  go_wp2_with (at_make; refine wpList_make_full _ rfl (.tmp 56) (.tmp 56) 168 rfl (w.heap.size + 1) 64 i0 .nilIface 1 Tryz.underlying168 hi0 hz0 hz1 .i64 .i64 (N : Int) (N : Int) N rfl rfl rfl rfl (by rw [hz2]; omega) (by unfold maxLen; omega) (by simp) ?_; intro w2 hown2 hg2; rw [← HW1.out] at hg2; have HB2 : Hid (Below w1.heap.size w1 w2) := ⟨hg2.os, hg2.tape, hg2.output, hg2.size, fun k hk => hg2.block k hk (by simp)⟩; obtain ⟨⟨b0, b1, b2, b4⟩, _⟩ := HF.out w2 HB2.out)
  go_loopw [63] (fun i wr => ∃ k : Nat, k ≤ N ∧ i = .int .i64 (k : Int) ∧ Hid (wr.ownsRow (w.heap.size + 1) 64 1 (.slice (some ⟨w.heap.size + 1, 0, none⟩) N N) N ((ts.map fun t => t.1).take k ++ List.replicate (N - k) .nilIface)) ∧ Hid (Below w1.heap.size w1 wr)) (fun i _ => N - (intOf i).toNat)
  case atStart =>
    refine ⟨0, Nat.zero_le _, rfl, ?_, HB2.out⟩
    have := hown2
    rw [World.size_alloc, Nat.mul_one, show (Value.nilIface.cells) = #[Value.nilIface] from rfl, toList_madeCells_one] at this
    show World.ownsRow _ _ _ _ _ _ _
    simpa using this
  case round =>
    obtain ⟨k, hk, rfl, HOr, HBr⟩ := hrel
    obtain ⟨⟨b0, b1, b2, b4⟩, hres, hrow, _⟩ := HF.out wr HBr.out
    by_cases hlt : k < N
    · have hkt : k < ts.length := by rw [HTS.out]; exact hlt
      obtain ⟨s0, s1, s2⟩ := hrow k ts[k] (List.getElem?_eq_getElem hkt)
      obtain ⟨⟨tu, yu, e1⟩, pa, pb, pc, e2⟩ := HSL.out ts[k] (List.getElem_mem hkt)
      have HV : Hid ((ts.map fun t => t.1)[k]? = some (.iface tu yu)) := by show _ = _; rw [List.getElem?_map, List.getElem?_eq_getElem hkt]; simp [e1]
      rw [e1] at s0
      rw [e2] at s2
      generalize ts[k].2.1 = m at *
      have t0 : wr.cell? ⟨w.heap.size + 1, k, none⟩ ≠ none := by
        rw [HOr.out.cellAt k (by omega)]
        have := HOr.out.1
        rw [List.getElem?_eq_getElem (by rw [this]; omega)]; simp
      obtain ⟨z, hz⟩ := Option.ne_none_iff_exists'.1 t0
      have fz := HOr.out.frozenAt k
      have hlz : w.heap.size + 1 < wr.heap.size := World.block_lt_of_cell? _ _ hz
      clear hrow hres e1 e2 hkt t0
      go_wp2_with fail
      go_roundw
      case rel =>
        refine ⟨k + 1, by omega, by go_num, ?_, ?_⟩
        · have h1 := (HOr.out.stored k (.iface tu yu)).1
          rw [made_set _ N k _ _ HV.out hlt] at h1
          exact h1.alloc _
        · exact (HBr.out.setCell (by rw [HS1.out]; simp) _).alloc (by have := HBr.out.size; simpa [World.setCell] using this) _
      case measure => simp [intOf]; omega
    · have hkn : k = N := by omega
      subst hkn
      have htk : (ts.map fun t => t.1).take k ++ List.replicate (k - k) Value.nilIface = ts.map fun t => t.1 := by
        rw [Nat.sub_self, List.replicate_zero, List.append_nil, List.take_of_length_le (by rw [List.length_map, HTS.out]; exact Nat.le_refl _)]
      rw [htk] at HOr
      have HG := hide (HF.out wr.drew HBr.out.drew).2.2.2.1
      have HGW := hide (HF.out wr.drew HBr.out.drew).2.2.2.2
      have hnl : (ts.map fun t => t.2.1).length = k := by rw [List.length_map]; exact HTS.out
      have HC : Hid (Calls Tryz.prog 123 #[.agg #[.map (some mb)], .string ⟨#[38]⟩, .slice (some ⟨g, 0, none⟩) k cap] wr.drew (Numbered mb tb (cat 38 (ts.map fun t => t.2.1)) wr.drew)) := by
        have hxr : RowN wr.drew g 0 (ts.map fun t => t.2.1) := by
          have hx0 : RowN w g 0 (ts.map fun t => t.2.1) := by
            have ho := HO.out
            rw [HPV.out] at ho
            exact row_num ho HTL.out HXS.out
          have hb : Below w.heap.size w wr.drew := by
            have e := HW1.out
            exact (by rw [e]; exact (Below.refl _ _).alloc (Nat.le_refl _) _ : Below w.heap.size w w1).trans (HBr.out.drew.mono (by rw [HS1.out]; omega))
          exact hx0.below hb hgl
        have hm6 : ∀ m, m ∈ (ts.map fun t => t.2.1) → m ≤ 1000000 := by
          intro m hm
          obtain ⟨t, ht, rfl⟩ := List.mem_map.1 hm
          obtain ⟨i, hi, hti⟩ := List.getElem_of_mem ht
          have := num_lt (HXS.out i (U[i]'(by rw [← HTL.out]; exact hi)) t (List.getElem?_eq_getElem _) (by rw [List.getElem?_eq_getElem hi, hti])).num
          omega
        have hcl := numberOf_any mb tb 38 g 0 cap (ts.map fun t => t.2.1) wr.drew HG.out.tbl hl HG.out.pow hxr (by rw [hnl]; exact hcap') (by rw [hnl]; exact hNm') hm6 (by have := HBr.out.size; show g < wr.heap.size; rw [HS1.out] at this; omega)
        rw [hnl] at hcl
        exact hcl
      have HEND : Hid (∀ (m : Nat) (more : List (List UInt8)) (w4 : World), Tbl mb (tb ++ more) w4 → (tb ++ more)[m]? = some (cat 38 (ts.map fun t => t.2.1)) → more.length ≤ 1 → wr.drew.grownBy w4 (some mb) → (w4.cell? ⟨gb, 0, none⟩ = some (.map (some mb)) ∧ w4.cell? ⟨gb, 2, none⟩ = some (.slice (some ⟨g, 0, none⟩) k cap)) ∧ Hid (w4.heap[w.heap.size]? = some (.cells #[.nilIface, .int .i64 0, .slice none 0 0] 130 (0, 0))) ∧ Hid (Wholed ok C mb tb ⟨6, [], U⟩ w (.returned (.agg #[.iface 169 (.slice (some ⟨w.heap.size + 1, 0, none⟩) k k), .int .i64 (m : Int), .slice (some ⟨g, 0, none⟩) k cap])) (((w4.setCell ⟨w.heap.size, 0, none⟩ (.iface 169 (.slice (some ⟨w.heap.size + 1, 0, none⟩) k k))).setCell ⟨w.heap.size, 1, none⟩ (.int .i64 (m : Int))).setCell ⟨w.heap.size, 2, none⟩ (.slice (some ⟨g, 0, none⟩) k cap)))) := by
        intro m more w4 hq1 hq2 hq3 hq4
        have hsz := HBr.out.size
        rw [HS1.out] at hsz
        have hmbl := HH.out.tbl.lt
        refine ⟨⟨cell_turned HG.out.tbl hq4 b0, cell_turned HG.out.tbl hq4 b2⟩, (hq4.block w.heap.size (by show w.heap.size < wr.heap.size; omega) (by simp; omega)).trans hres, ?_⟩
        have := whole_end HH.out (.inl rfl) (by have := HLN.out; have := HNN.out; omega) (by have := HNN.out; omega) HTL.out (by rw [HPV.out]) HO.out HXS.out (HGW.out.trans hq4) hq1 hq2 hq3 (mk := w.heap.size + 1) (T := 169) rfl (fun i t hi => cell_turned HG.out.tbl hq4 (by
          have hil := (List.getElem?_eq_some_iff.1 hi).1
          show wr.cell? _ = _
          rw [HOr.out.cellAt i (by rw [← HTS.out]; omega), List.getElem?_map, hi]; rfl)) rfl
        rw [← HNN.out, HPV.out, ← HNN.out] at this
        exact this
      clear HG HGW HF hres
      go_wp2_with fail
      go_region_held3 (fun W => W.cell? ⟨gb, 0, none⟩ = some (.map (some mb)) ∧ W.cell? ⟨gb, 2, none⟩ = some (.slice (some ⟨g, 0, none⟩) k cap)) ((first | go_keep | (refine ⟨?_, ?_⟩ <;> (repeat (rw [World.cell?_setCell_far _ _ _ _ (by dsimp only; omega)])) <;> assumption)))
        ((go_at_call 123; refine HC.out.mono ?_; rintro e w4 ⟨m, more, rfl, hq1, hq2, hq3, hq4⟩; obtain ⟨⟨z0, z2⟩, HR4, HM4⟩ := HEND.out m more w4 hq1 hq2 hq3 hq4; have d0 : w4.cell? ⟨w.heap.size, 0, none⟩ = some .nilIface := (by rw [Lib.cell_of_heap HR4.out]; rfl); have d1 : w4.cell? ⟨w.heap.size, 1, none⟩ = some (.int .i64 0) := (by rw [Lib.cell_of_heap HR4.out]; rfl); have d2 : w4.cell? ⟨w.heap.size, 2, none⟩ = some (.slice none 0 0) := (by rw [Lib.cell_of_heap HR4.out]; rfl); have g0 := Lib.frozen_of_heap HR4.out 0; have g1 := Lib.frozen_of_heap HR4.out 1; have g2 := Lib.frozen_of_heap HR4.out 2))
      all_goals go_wp2_with fail
      all_goals
        refine bodyPost_ret_by (v := .agg #[.iface 169 (.slice (some ⟨w.heap.size + 1, 0, none⟩) k k), .int .i64 (m : Int), .slice (some ⟨g, 0, none⟩) k cap]) ?_ rfl HM4.out
        obtain ⟨q0, q1, q2⟩ := three_out HR4.out (.iface 169 (.slice (some ⟨w.heap.size + 1, 0, none⟩) k k)) (.int .i64 (m : Int)) (.slice (some ⟨g, 0, none⟩) k cap)
        simp [results, Tryz.results125, go_sem, q0, q1, q2]
set_option maxHeartbeats 8000000 in
set_option maxRecDepth 100000 in
theorem whole_many7 (ok : Nat → Prop) (B C mb gb sb : Nat) (tb : List (List UInt8)) (U : List Ex) (pv : Value) (w : World) (h : Gs ok B C mb gb sb 7 tb U false pv w) (hl : tb.length < 1000000) (hN : 2 ≤ U.length) (hNm : U.length ≤ 1000000) :
    Calls Tryz.prog 125 #[.pointer (some ⟨gb, 0, none⟩)] w (Wholed ok C mb tb ⟨7, [], U⟩ w) := by
  obtain ⟨ts, htl, ho, hxs, _⟩ := h.rows
  obtain ⟨g, cap, hpv⟩ : ∃ g cap, pv = .slice (some ⟨g, 0, none⟩) U.length cap := by
    rcases ho.2 with ⟨_, hn⟩ | ⟨g, cap, cur, hv, _⟩
    · omega
    · exact ⟨g, cap, hv⟩
  obtain ⟨N, hNN⟩ : ∃ N, N = U.length := ⟨_, rfl⟩
  obtain ⟨w1, hw1⟩ : ∃ w1, w1 = w.alloc (.cells #[.nilIface, .int .i64 0, .slice none 0 0] 130) := ⟨_, rfl⟩
  have hb1 : Below w.heap.size w w1 := by rw [hw1]; exact (Below.refl _ _).alloc (Nat.le_refl _) _
  have hr1 : w1.heap[w.heap.size]? = some (.cells #[.nilIface, .int .i64 0, .slice none 0 0] 130 (0, 0)) := by rw [hw1]; exact heap_alloc_new w _
  have hs1 : w1.heap.size = w.heap.size + 1 := by rw [hw1]; simp
  have hgl : g < w.heap.size := (ho.lt g (by rw [hpv]; rfl)).2
  have hlt := h.lt
  have hcap : U.length ≤ cap := by
    rcases ho.2 with ⟨_, hn⟩ | ⟨g', cap', cur, e, _, _, hn, _⟩
    · omega
    · rw [hpv] at e; simp only [Value.slice.injEq] at e; rw [e.2.2]; exact hn
  have hsl : ∀ t, t ∈ ts → (∃ tu yu, t.1 = .iface tu yu) ∧ ∃ a b c, t.2.2 = .slice a b c := by
    intro t ht
    obtain ⟨i, hi, hti⟩ := List.getElem_of_mem ht
    have := hxs i U[i] t (List.getElem?_eq_getElem (by omega)) (by rw [List.getElem?_eq_getElem hi, hti])
    exact ⟨IsEx.iface _ _ this.ex, this.slice⟩
  have HF : Hid (∀ W, Below w1.heap.size w1 W → (W.cell? ⟨gb, 0, none⟩ = some (.map (some mb)) ∧ W.cell? ⟨gb, 1, none⟩ = some (.bool false) ∧ W.cell? ⟨gb, 2, none⟩ = some (.slice (some ⟨g, 0, none⟩) N cap) ∧ W.cell? ⟨gb, 4, none⟩ = some (.bool false)) ∧ W.heap[w.heap.size]? = some (.cells #[.nilIface, .int .i64 0, .slice none 0 0] 130 (0, 0)) ∧ (∀ (i : Nat) (t : Value × Nat × Value), ts[i]? = some t → W.cell? ⟨g, i * 3, none⟩ = some t.1 ∧ W.cell? ⟨g, i * 3 + 1, none⟩ = some (.int .i64 (t.2.1 : Int)) ∧ W.cell? ⟨g, i * 3 + 2, none⟩ = some t.2.2) ∧ Gs ok B C mb gb sb 7 tb U false pv W ∧ w.grownBy W (some mb)) := by
    intro W hW
    have hbW : Below w.heap.size w W := hb1.trans (hW.mono hb1.size)
    have hG := h.below hbW
    refine ⟨⟨hG.c0, by rw [hG.c1]; rfl, by rw [hG.c2, hpv, hNN], hG.c4⟩, (hW.block _ (by omega)).trans hr1, fun i t ht => ?_, hG, grown_of_below hbW _⟩
    rw [hpv] at ho
    obtain ⟨c1, c2, c3⟩ := row_cells ho htl i t ht
    exact ⟨(hbW.cell (p := ⟨g, _, none⟩) hgl).trans c1, (hbW.cell (p := ⟨g, _, none⟩) hgl).trans c2, (hbW.cell (p := ⟨g, _, none⟩) hgl).trans c3⟩
  obtain ⟨⟨a0, a1, a2, a4⟩, _⟩ := HF.out w1 (Below.refl _ _)
  obtain ⟨i0, hi0, hz0, hz1, hz2⟩ := info_parts Tryz.infoExpr
  have HTS : Hid (ts.length = N) := by show _ = _; omega
  have HSL := hide hsl
  have HLN : Hid (2 ≤ N) := by show _ ≤ _; omega
  have HNN := hide hNN
  have HPV := hide hpv
  have HO := hide ho
  have HXS := hide hxs
  have HTL := hide htl
  have HW1 := hide hw1
  have HH := hide h
  have HS1 := hide hs1
  have hNz : ((N : Int) == 0) = false := by simp; omega
  have hN1 : ((N : Int) == 1) = false := by simp; omega
  have hNm' : N ≤ 1000000 := by omega
  have hcap' : N ≤ cap := by omega
  rw [hw1] at a0 a1 a2 a4
  clear hpv ho hxs htl hw1 h hs1 hb1 hr1 hsl hNN hcap hNm hN
  go_enter Tryz.func125, Tryz.ntmps125
  go_wp2_with (at_make; refine wpList_make_full _ rfl (.tmp 56) (.tmp 56) 168 rfl (w.heap.size + 1) 64 i0 .nilIface 1 Tryz.underlying168 hi0 hz0 hz1 .i64 .i64 (N : Int) (N : Int) N rfl rfl rfl rfl (by rw [hz2]; omega) (by unfold maxLen; omega) (by simp) ?_; intro w2 hown2 hg2; rw [← HW1.out] at hg2; have HB2 : Hid (Below w1.heap.size w1 w2) := ⟨hg2.os, hg2.tape, hg2.output, hg2.size, fun k hk => hg2.block k hk (by simp)⟩; obtain ⟨⟨b0, b1, b2, b4⟩, _⟩ := HF.out w2 HB2.out)
  go_loopw [63] (fun i wr => ∃ k : Nat, k ≤ N ∧ i = .int .i64 (k : Int) ∧ Hid (wr.ownsRow (w.heap.size + 1) 64 1 (.slice (some ⟨w.heap.size + 1, 0, none⟩) N N) N ((ts.map fun t => t.1).take k ++ List.replicate (N - k) .nilIface)) ∧ Hid (Below w1.heap.size w1 wr)) (fun i _ => N - (intOf i).toNat)
  case atStart =>
    refine ⟨0, Nat.zero_le _, rfl, ?_, HB2.out⟩
    have := hown2
    rw [World.size_alloc, Nat.mul_one, show (Value.nilIface.cells) = #[Value.nilIface] from rfl, toList_madeCells_one] at this
    show World.ownsRow _ _ _ _ _ _ _
    simpa using this
  case round =>
    obtain ⟨k, hk, rfl, HOr, HBr⟩ := hrel
    obtain ⟨⟨b0, b1, b2, b4⟩, hres, hrow, _⟩ := HF.out wr HBr.out
    by_cases hlt : k < N
    · have hkt : k < ts.length := by rw [HTS.out]; exact hlt
      obtain ⟨s0, s1, s2⟩ := hrow k ts[k] (List.getElem?_eq_getElem hkt)
      obtain ⟨⟨tu, yu, e1⟩, pa, pb, pc, e2⟩ := HSL.out ts[k] (List.getElem_mem hkt)
      have HV : Hid ((ts.map fun t => t.1)[k]? = some (.iface tu yu)) := by show _ = _; rw [List.getElem?_map, List.getElem?_eq_getElem hkt]; simp [e1]
      rw [e1] at s0
      rw [e2] at s2
      generalize ts[k].2.1 = m at *
      have t0 : wr.cell? ⟨w.heap.size + 1, k, none⟩ ≠ none := by
        rw [HOr.out.cellAt k (by omega)]
        have := HOr.out.1
        rw [List.getElem?_eq_getElem (by rw [this]; omega)]; simp
      obtain ⟨z, hz⟩ := Option.ne_none_iff_exists'.1 t0
      have fz := HOr.out.frozenAt k
      have hlz : w.heap.size + 1 < wr.heap.size := World.block_lt_of_cell? _ _ hz
      clear hrow hres e1 e2 hkt t0
      go_wp2_with fail
      go_roundw
      case rel =>
        refine ⟨k + 1, by omega, by go_num, ?_, ?_⟩
        · have h1 := (HOr.out.stored k (.iface tu yu)).1
          rw [made_set _ N k _ _ HV.out hlt] at h1
          exact h1.alloc _
        · exact (HBr.out.setCell (by rw [HS1.out]; simp) _).alloc (by have := HBr.out.size; simpa [World.setCell] using this) _
      case measure => simp [intOf]; omega
    · have hkn : k = N := by omega
      subst hkn
      have htk : (ts.map fun t => t.1).take k ++ List.replicate (k - k) Value.nilIface = ts.map fun t => t.1 := by
        rw [Nat.sub_self, List.replicate_zero, List.append_nil, List.take_of_length_le (by rw [List.length_map, HTS.out]; exact Nat.le_refl _)]
      rw [htk] at HOr
      have HG := hide (HF.out wr.drew HBr.out.drew).2.2.2.1
      have HGW := hide (HF.out wr.drew HBr.out.drew).2.2.2.2
      have hnl : (ts.map fun t => t.2.1).length = k := by rw [List.length_map]; exact HTS.out
      have HC : Hid (Calls Tryz.prog 123 #[.agg #[.map (some mb)], .string ⟨#[124]⟩, .slice (some ⟨g, 0, none⟩) k cap] wr.drew (Numbered mb tb (cat 124 (ts.map fun t => t.2.1)) wr.drew)) := by
        have hxr : RowN wr.drew g 0 (ts.map fun t => t.2.1) := by
          have hx0 : RowN w g 0 (ts.map fun t => t.2.1) := by
            have ho := HO.out
            rw [HPV.out] at ho
            exact row_num ho HTL.out HXS.out
          have hb : Below w.heap.size w wr.drew := by
            have e := HW1.out
            exact (by rw [e]; exact (Below.refl _ _).alloc (Nat.le_refl _) _ : Below w.heap.size w w1).trans (HBr.out.drew.mono (by rw [HS1.out]; omega))
          exact hx0.below hb hgl
        have hm6 : ∀ m, m ∈ (ts.map fun t => t.2.1) → m ≤ 1000000 := by
          intro m hm
          obtain ⟨t, ht, rfl⟩ := List.mem_map.1 hm
          obtain ⟨i, hi, hti⟩ := List.getElem_of_mem ht
          have := num_lt (HXS.out i (U[i]'(by rw [← HTL.out]; exact hi)) t (List.getElem?_eq_getElem _) (by rw [List.getElem?_eq_getElem hi, hti])).num
          omega
        have hcl := numberOf_any mb tb 124 g 0 cap (ts.map fun t => t.2.1) wr.drew HG.out.tbl hl HG.out.pow hxr (by rw [hnl]; exact hcap') (by rw [hnl]; exact hNm') hm6 (by have := HBr.out.size; show g < wr.heap.size; rw [HS1.out] at this; omega)
        rw [hnl] at hcl
        exact hcl
      have HEND : Hid (∀ (m : Nat) (more : List (List UInt8)) (w4 : World), Tbl mb (tb ++ more) w4 → (tb ++ more)[m]? = some (cat 124 (ts.map fun t => t.2.1)) → more.length ≤ 1 → wr.drew.grownBy w4 (some mb) → (w4.cell? ⟨gb, 0, none⟩ = some (.map (some mb)) ∧ w4.cell? ⟨gb, 2, none⟩ = some (.slice (some ⟨g, 0, none⟩) k cap)) ∧ Hid (w4.heap[w.heap.size]? = some (.cells #[.nilIface, .int .i64 0, .slice none 0 0] 130 (0, 0))) ∧ Hid (Wholed ok C mb tb ⟨7, [], U⟩ w (.returned (.agg #[.iface 171 (.slice (some ⟨w.heap.size + 1, 0, none⟩) k k), .int .i64 (m : Int), .slice (some ⟨g, 0, none⟩) k cap])) (((w4.setCell ⟨w.heap.size, 0, none⟩ (.iface 171 (.slice (some ⟨w.heap.size + 1, 0, none⟩) k k))).setCell ⟨w.heap.size, 1, none⟩ (.int .i64 (m : Int))).setCell ⟨w.heap.size, 2, none⟩ (.slice (some ⟨g, 0, none⟩) k cap)))) := by
        intro m more w4 hq1 hq2 hq3 hq4
        have hsz := HBr.out.size
        rw [HS1.out] at hsz
        have hmbl := HH.out.tbl.lt
        refine ⟨⟨cell_turned HG.out.tbl hq4 b0, cell_turned HG.out.tbl hq4 b2⟩, (hq4.block w.heap.size (by show w.heap.size < wr.heap.size; omega) (by simp; omega)).trans hres, ?_⟩
        have := whole_end HH.out (.inr rfl) (by have := HLN.out; have := HNN.out; omega) (by have := HNN.out; omega) HTL.out (by rw [HPV.out]) HO.out HXS.out (HGW.out.trans hq4) hq1 hq2 hq3 (mk := w.heap.size + 1) (T := 171) rfl (fun i t hi => cell_turned HG.out.tbl hq4 (by
          have hil := (List.getElem?_eq_some_iff.1 hi).1
          show wr.cell? _ = _
          rw [HOr.out.cellAt i (by rw [← HTS.out]; omega), List.getElem?_map, hi]; rfl)) rfl
        rw [← HNN.out, HPV.out, ← HNN.out] at this
        exact this
      clear HG HGW HF hres
      go_wp2_with fail
      go_region_held3 (fun W => W.cell? ⟨gb, 0, none⟩ = some (.map (some mb)) ∧ W.cell? ⟨gb, 2, none⟩ = some (.slice (some ⟨g, 0, none⟩) k cap)) ((first | go_keep | (refine ⟨?_, ?_⟩ <;> (repeat (rw [World.cell?_setCell_far _ _ _ _ (by dsimp only; omega)])) <;> assumption)))
        ((go_at_call 123; refine HC.out.mono ?_; rintro e w4 ⟨m, more, rfl, hq1, hq2, hq3, hq4⟩; obtain ⟨⟨z0, z2⟩, HR4, HM4⟩ := HEND.out m more w4 hq1 hq2 hq3 hq4; have d0 : w4.cell? ⟨w.heap.size, 0, none⟩ = some .nilIface := (by rw [Lib.cell_of_heap HR4.out]; rfl); have d1 : w4.cell? ⟨w.heap.size, 1, none⟩ = some (.int .i64 0) := (by rw [Lib.cell_of_heap HR4.out]; rfl); have d2 : w4.cell? ⟨w.heap.size, 2, none⟩ = some (.slice none 0 0) := (by rw [Lib.cell_of_heap HR4.out]; rfl); have g0 := Lib.frozen_of_heap HR4.out 0; have g1 := Lib.frozen_of_heap HR4.out 1; have g2 := Lib.frozen_of_heap HR4.out 2))
      all_goals go_wp2_with fail
      all_goals
        refine bodyPost_ret_by (v := .agg #[.iface 171 (.slice (some ⟨w.heap.size + 1, 0, none⟩) k k), .int .i64 (m : Int), .slice (some ⟨g, 0, none⟩) k cap]) ?_ rfl HM4.out
        obtain ⟨q0, q1, q2⟩ := three_out HR4.out (.iface 171 (.slice (some ⟨w.heap.size + 1, 0, none⟩) k k)) (.int .i64 (m : Int)) (.slice (some ⟨g, 0, none⟩) k cap)
        simp [results, Tryz.results125, go_sem, q0, q1, q2]
/-- whole: what is left of a list -/
theorem twhole_any (ok : Nat → Prop) (B C mb gb sb k : Nat) (hk : k = 6 ∨ k = 7) (tb : List (List UInt8)) (U : List Ex) (d : Bool) (pv : Value) (w : World) (h : Gs ok B C mb gb sb k tb U d pv w) (hl : tb.length < 1000000) (hNm : U.length ≤ 1000000) :
    Calls Tryz.prog 125 #[.pointer (some ⟨gb, 0, none⟩)] w (Wholed ok C mb tb (if d = true then ⟨Ex.allK k, [], []⟩ else Ex.wrap k U) w) := by
  have hBw := h.size
  cases d with
  | true =>
    refine (whole_const ok B C mb gb sb k hk tb U true pv w h hl (.inl rfl)).mono fun e w4 hm => ?_
    exact hm.wholed hBw
  | false =>
    rw [if_neg (by simp)]
    match U, h, hNm with
    | [], h, _ =>
      refine (whole_const ok B C mb gb sb k hk tb [] false pv w h hl (.inr rfl)).mono fun e w4 hm => ?_
      rw [if_neg (by simp)] at hm
      exact hm.wholed hBw
    | [y], h, _ => exact whole_one ok B C mb gb sb k tb y pv w h
    | a :: b :: r, h, hNm =>
      rcases hk with rfl | rfl
      · exact whole_many6 ok B C mb gb sb tb (a :: b :: r) pv w h hl (by simp) hNm
      · exact whole_many7 ok B C mb gb sb tb (a :: b :: r) pv w h hl (by simp) hNm
end Go.Proofs.YtdlcelbbelcfkaaGreatDoor
