/-
  The walk of the document's named: a name is put where it belongs. The walks of the document's named, Names and Edges: the names in order, each once.
-/
import Derived.Test.YtkpfahbodlfpiaaGreatDoorNdWalkAll
import Derived.Laws.EntriesVeiled
namespace Go.Proofs.YtkpfahbodlfpiaaGreatDoor
section
open Go.RowKit
theorem ownsRow_shape {w : World} {B : Nat} {e : TypeId} {v : Value} {n : Nat} {xs : List Value} (h : w.ownsRow B e 1 v n xs) : ∃ a c, v = .slice a n c := by
  rcases h.2 with ⟨hv, hn⟩ | ⟨g, cap, cur, hv, _⟩
  · exact ⟨_, _, by rw [hv, hn]⟩
  · exact ⟨_, _, hv⟩
theorem put_list (L M : List Value) (n q cap : Nat) (u e : Value) (hM : M.length = n) (hq : q ≤ n) (hn : n + 1 ≤ cap) (hL : L.length = cap) (ht : L.take (n + 1) = M ++ [e]) :
    ((splice L (q + 1) (M.drop q)).set q u).take (n + 1) = M.take q ++ u :: M.drop q := by
  have h1 : L.take q = M.take q := by
    have : (L.take (n + 1)).take q = (M ++ [e]).take q := by rw [ht]
    rw [List.take_take, Nat.min_eq_left (by omega), List.take_append_of_le_length (by omega)] at this
    exact this
  have h2 : L.take (q + 1) = M.take q ++ [L[q]'(by omega)] := by
    rw [List.take_succ_eq_append_getElem (by omega), h1]
  unfold splice
  rw [h2]
  have hl : (M.take q).length = q := by rw [List.length_take]; omega
  have e1 : (M.take q ++ [L[q]'(by omega)] ++ (M.drop q ++ L.drop (q + 1 + (M.drop q).length))).set q u = M.take q ++ [u] ++ (M.drop q ++ L.drop (q + 1 + (M.drop q).length)) := by
    rw [List.append_assoc, List.set_append_right q u (by omega), hl, Nat.sub_self]
    simp
  rw [e1, ← List.append_assoc, List.take_append_of_le_length (by simp; omega), List.take_of_length_le (by simp; omega)]
  simp
theorem put_end {p q n g2 cap2 : Nat} {kd nm : List UInt8} {ns : List (List UInt8)} {cur2 : Array Value} {w1 w3 wc : World} (hN : n = ns.length) (hq : q ≤ n) (hS1 : Sn p kd ns w1) (hB3 : Below (p + 1) w1 w3) (hO3 : w3.heap[p + 1]? = some (.cells #[.slice (some ⟨g2, 0, none⟩) (n + 1) cap2] 109 (0, 0)))
    (hF3 : w3.heap[p + 2]? = w1.heap[p + 2]?) (hB4 : Below (p + 3) w3 wc) (hG4 : wc.heap[g2]? = some (.cells (splice cur2.toList (q + 1) ((ns.drop q).map strV)).toArray 9 (0, 0))) (hSL : (splice cur2.toList (q + 1) ((ns.drop q).map strV)).length = cap2)
    (hg : p + 3 ≤ g2) (hnc : n + 1 ≤ cap2) (hcm : cap2 ≤ maxLen) (hcs : cur2.size = cap2) (htk : cur2.toList.take (n + 1) = ns.map strV ++ [strV []]) :
    Sn p kd (ns.take q ++ nm :: ns.drop q) (wc.setCell ⟨g2, q, none⟩ (strV nm)) ∧ Below p w1 (wc.setCell ⟨g2, q, none⟩ (strV nm)) := by
  have hne : ∀ b, b < p + 3 → (wc.setCell ⟨g2, q, none⟩ (strV nm)).heap[b]? = w3.heap[b]? := fun b hb => by
    rw [Below.heap_setCell _ _ _ _ (by simp; omega), hB4.block b hb]
  refine ⟨⟨?_, ⟨.slice (some ⟨g2, 0, none⟩) (n + 1) cap2, ?_, ?_⟩, ?_⟩, ?_⟩
  · rw [hne p (by omega), hB3.block p (by omega)]; exact hS1.k
  · rw [hne (p + 1) (by omega)]; exact hO3
  · have hl : (ns.take q ++ nm :: ns.drop q).length = n + 1 := by simp; omega
    rw [hl]
    refine ⟨by rw [List.length_map, hl]; omega, .inr ⟨g2, cap2, (splice cur2.toList (q + 1) ((ns.drop q).map strV)).toArray.setIfInBounds q (strV nm), rfl, hg, heap_setCell_same wc g2 q _ _ _ hG4, hnc, hcm, by simp; simpa using hSL, ?_⟩⟩
    rw [Array.toList_setIfInBounds, Nat.mul_one]
    have := put_list cur2.toList (ns.map strV) n q cap2 (strV nm) (strV []) (by simp [hN]) hq hnc (by simp [hcs]) htk
    rw [← List.map_drop] at this
    rw [this]
    simp
  · rw [hne (p + 2) (by omega), hF3]; exact hS1.f
  · exact ((hB3.mono (by omega)).trans (hB4.mono (by omega))).setCell (by simp; omega) _
theorem wrap_next (q : Nat) (h : q < 2000000) : IntKind.i64.wrap ((q : Int) + 1) = (q : Int) + 1 := by
  rw [IntKind.wrap_i64]; omega
set_option maxHeartbeats 1000000 in
set_option maxRecDepth 100000 in
theorem named_put (all : Bool) (k : Nat) (hk0 : (k = 2 ∧ all = true) ∨ k = 3 ∨ k = 4) (nm : List UInt8) (hnm : nm ≠ []) (g p : Nat) (m : Int) (ns : List (List UInt8)) (w : World) (h : IsRx (fun g => g < p) w ⟨k, nm, []⟩ g) (hs : Sn p (kindsOf all) ns w) (hm : w.cell? ⟨3, 0, none⟩ = some (.int .i64 m)) (hlen : ns.length < 1000000) :
    Calls Tryz.prog 167 #[.pointer (some ⟨g, 0, none⟩), .pointer (some ⟨p, 0, none⟩), .pointer (some ⟨p + 1, 0, none⟩), .pointer (some ⟨p + 2, 0, none⟩)] w fun e w' => e = .returned (.tuple #[]) ∧ Sn p (kindsOf all) (ins ns nm) w' ∧ Below p w w' := by
  have HS := hide hs
  have HM := hide hm
  rw [IsRx.def] at h
  obtain ⟨_, _, _, hk, hn, sv, hsv, hof⟩ := h
  have hc := hs.cells.1
  have HC := hide (fun n => Tryz.strings_Contains ⟨(kindsOf all).toArray⟩ ⟨(kindS k).toArray⟩ m (w.drewN n) (by cases all <;> decide) (by rw [World.cell?_drewN]; exact hm))
  rw [contains_is all k hk0] at HC
  generalize kindS k = kk at *
  generalize kindsOf all = kd at *
  have hne : nm.isEmpty = false := by cases nm <;> simp_all
  obtain ⟨v, hb1, ho⟩ := hs.o
  obtain ⟨a, c, rfl⟩ := ownsRow_shape ho
  have hc1 : w.cell? ⟨p + 1, 0, none⟩ = some (.slice a ns.length c) := by rw [Lib.cell_of_heap hb1]; rfl
  have HO := hide ho
  have HB1 := hide hb1
  obtain ⟨n, hn'⟩ : ∃ n, n = ns.length := ⟨_, rfl⟩
  have HN := hide hn'
  rw [← hn'] at hc1 hlen
  clear hs hm hnm hb1 ho hn' hk0
  rcases hof with ⟨h0, rfl⟩ | ⟨hpos, b, cap, rfl, hcap, hbp, hrow⟩
  · go_enter Tryz.func167, Tryz.ntmps167
    go_wp2_with fail
    go_quiet ((go_at_call 168; refine (HC.out _).mono ?_; rintro e w'' ⟨rfl, rfl⟩; exact ⟨rfl, _, rfl⟩))
    clear HC hne hk hc
    go_upto_block 0 with fail
    go_cut [5] (fun t wx => ∃ q d : Nat, t = .int .i64 (q : Int) ∧ q ≤ n ∧ (∀ j, j < q → ∀ y, ns[j]? = some y → y < nm) ∧ (∀ y, ns[q]? = some y → ¬ y < nm) ∧ wx = w.drewN d)
    case first =>
      go_wp2_with fail
      go_loopw [5] (fun t wr => ∃ q d : Nat, t = .int .i64 (q : Int) ∧ q ≤ n ∧ Hid (∀ j, j < q → ∀ y, ns[j]? = some y → y < nm) ∧ wr = w.drewN d) (fun i _ => n - (intOf i).toNat)
      case atStart => exact ⟨0, nq, rfl, Nat.zero_le _, fun j hj => absurd hj (by omega), rfl⟩
      case round =>
        obtain ⟨q, d, rfl, hq, HQ, rfl⟩ := hrel
        by_cases hlt : q < n
        · have hlt' : (q : Int) < (n : Int) := by omega
          have hql : q < ns.length := by rw [← HN.out]; exact hlt
          obtain ⟨gr, hgr⟩ : ∃ gr, a = some ⟨gr, 0, none⟩ := by
            rcases HO.out.2 with ⟨hv, hz⟩ | ⟨g', cap', cur, hv, _⟩
            · omega
            · simp only [Value.slice.injEq] at hv; exact ⟨g', hv.1⟩
          have hcy : w.cell? ⟨gr, q, none⟩ = some (strV ns[q]) := by
            have := HO.out
            rw [hgr] at this
            rw [this.cellAt q (by omega), List.getElem?_map, List.getElem?_eq_getElem hql]; rfl
          have HY : Hid (ns[q]? = some ns[q]) := List.getElem?_eq_getElem hql
          subst hgr
          generalize ns[q] = y at *
          unfold strV at hcy
          clear hql
          by_cases hy : y < nm
          · have hyb : Op.bytesLess y nm = true := by rw [bytesLess_eq]; exact decide_eq_true hy
            have HYN := hide hy
            clear hy
            go_wp2_with fail
            go_quiet (fail)
            go_wp2_with fail
            go_roundw
            case rel =>
              refine ⟨q + 1, d + nq, by go_num, by omega, ?_, by first | rfl | simp⟩
              intro j hj z hz
              by_cases e : j = q
              · subst e; rw [HY.out] at hz; simp only [Option.some.injEq] at hz; rw [← hz]; exact HYN.out
              · exact HQ.out j (by omega) z hz
            case measure => simp [intOf]; omega
          · have hyb : Op.bytesLess y nm = false := by rw [bytesLess_eq]; exact decide_eq_false hy
            have HYN := hide hy
            clear hy
            go_wp2_with fail
            go_quiet (fail)
            go_wp2_with fail
            go_meet
            exact ⟨q, d + nq, rfl, hq, HQ.out, fun z hz => by rw [HY.out] at hz; simp only [Option.some.injEq] at hz; rw [← hz]; exact HYN.out, by first | rfl | simp⟩
        · have hlt' : ¬ (q : Int) < (n : Int) := by omega
          have hlb : decide ((q : Int) < (n : Int)) = false := decide_eq_false hlt'
          go_wp2_with fail
          go_quiet (fail)
          go_wp2_with fail
          go_meet
          exact ⟨q, d + nq, rfl, hq, HQ.out, fun z hz => by rw [List.getElem?_eq_none (by have := HN.out; omega)] at hz; simp at hz, by first | rfl | simp⟩
    case rest =>
      obtain ⟨q, d, rfl, hq, hq1, hq2, rfl⟩ := hcut
      have HI := hide (ins_at nm ns q (by have := HN.out; omega) hq1 hq2)
      clear hq1 hq2
      by_cases hqe : ns[q]? = some nm
      · have HE : Hid (ins ns nm = ns) := by show _ = _; rw [HI.out, if_pos hqe]
        have hql : q < ns.length := by
          by_cases h : q < ns.length
          · exact h
          · rw [List.getElem?_eq_none (by omega)] at hqe; simp at hqe
        obtain ⟨gr, hgr⟩ : ∃ gr, a = some ⟨gr, 0, none⟩ := by
          rcases HO.out.2 with ⟨hv, hz⟩ | ⟨g', cap', cur, hv, _⟩
          · omega
          · simp only [Value.slice.injEq] at hv; exact ⟨g', hv.1⟩
        have hcy : w.cell? ⟨gr, q, none⟩ = some (strV nm) := by
          have := HO.out
          rw [hgr] at this
          rw [this.cellAt q (by omega), List.getElem?_map, hqe]; rfl
        subst hgr
        unfold strV at hcy
        have hlt : q < n := by rw [HN.out]; exact hql
        have hlb : ((q : Int) == (n : Int)) = false := beq_eq_false_iff_ne.2 (by omega)
        clear hqe hql
        go_wp2_with fail
        go_quiet (fail)
        go_wp2_with fail
        go_loopw [76] (fun i wr => i = .int .i64 0 ∧ ∃ d, wr = w.drewN d) (fun _ _ => 0)
        case atStart => exact ⟨rfl, d + nq, by first | rfl | simp⟩
        case round =>
          obtain ⟨rfl, d2, rfl⟩ := hrel
          go_wp2_with fail
          go_end0
          exact ⟨rfl, by rw [HE.out]; exact HS.out.drewN d2, (Below.refl _ _).drewM d2⟩
      · have HE : Hid (ins ns nm = ns.take q ++ nm :: ns.drop q) := by show _ = _; rw [HI.out, if_neg hqe]
        go_upto_region 4 with fail
        go_cut [52] (fun t wx => t = .bool true ∧ ∃ d, wx = w.drewN d)
        case first =>
          by_cases hlt : q < n
          · have hql : q < ns.length := by rw [← HN.out]; exact hlt
            obtain ⟨gr, hgr⟩ : ∃ gr, a = some ⟨gr, 0, none⟩ := by
              rcases HO.out.2 with ⟨hv, hz⟩ | ⟨g', cap', cur, hv, _⟩
              · omega
              · simp only [Value.slice.injEq] at hv; exact ⟨g', hv.1⟩
            have hcy : w.cell? ⟨gr, q, none⟩ = some (strV ns[q]) := by
              have := HO.out
              rw [hgr] at this
              rw [this.cellAt q (by omega), List.getElem?_map, List.getElem?_eq_getElem hql]; rfl
            rw [List.getElem?_eq_getElem hql] at hqe
            subst hgr
            unfold strV at hcy
            have hlb : ((q : Int) == (n : Int)) = false := beq_eq_false_iff_ne.2 (by omega)
            generalize ns[q] = y at *
            have hyn : (y == nm) = false := beq_eq_false_iff_ne.2 (by intro e; exact hqe (by rw [e]))
            have hyn2 : (y != nm) = true := by simp [bne, hyn]
            clear hqe hql
            go_wp2_with fail
            go_quiet (fail)
            go_wp2_with fail
            go_meet
            exact ⟨rfl, d + nq, by first | rfl | simp⟩
          · have hqn : q = n := by omega
            subst hqn
            have hlb : ((q : Int) == (q : Int)) = true := beq_self_eq_true _
            go_wp2_with fail
            go_quiet (fail)
            go_wp2_with fail
            go_meet
            exact ⟨rfl, d + nq, by first | rfl | simp⟩
        case rest =>
          obtain ⟨rfl, d2, rfl⟩ := hcut
          clear hqe HI
          obtain ⟨w1, hw1⟩ : ∃ w1, w1 = w.drewN d2 := ⟨_, rfl⟩
          have HS1 : Hid (Sn p kd ns w1) := by show Sn _ _ _ _; rw [hw1]; exact HS.out.drewN d2
          have HBL : Hid (Below p w w1) := by show Below _ _ _; rw [hw1]; exact (Below.refl _ _).drewM d2
          rw [← hw1]
          have hc1' : w1.cell? ⟨p + 1, 0, none⟩ = some (.slice a n c) := by rw [hw1]; exact hc1
          have hn1 : w1.cell? ⟨g, 1, none⟩ = some (.string ⟨nm.toArray⟩) := by rw [hw1]; exact hn
          have hsv1 : w1.cell? ⟨g, 2, none⟩ = some (.slice none 0 0) := by rw [hw1]; exact hsv
          have HOW : Hid (w1.ownsRow (p + 3) 9 1 (.slice a n c) n (ns.map strV)) := by show World.ownsRow _ _ _ _ _ _ _; have := HO.out; rw [← HN.out] at this; rw [hw1]; exact this
          have HP1 : Hid (w1.heap[p + 1]? = some (.cells #[.slice a n c] 109 (0, 0))) := by show _ = _; have := HB1.out; rw [← HN.out] at this; rw [hw1]; exact this
          have hp1s : p + 2 < w1.heap.size := by have := HS1.out.f; exact (Array.getElem?_eq_some_iff.1 this).1
          clear hw1 hc1 hn hsv HO HB1 HS
          obtain ⟨i0, hi0, hz0, hz1, hz2⟩ := info_parts Tryz.infoStr
          have HO2 := hide (HOW.out.alloc (.cells #[.string ⟨#[]⟩] 9))
          go_wp2_with (at_builtin; refine wpList_append_own _ rfl _ _ 109 rfl (p + 3) 9 i0 (.string ⟨#[]⟩) 1 16 Tryz.underlying109 hi0 hz0 hz1 hz2 rfl (by decide) _ n (ns.map strV) rfl HO2.out ⟨w1.heap.size, 0, none⟩ 1 1 [.string ⟨#[]⟩] rfl rfl (cell_one_new _ _ _) ?c2 ?c3 ?c4 ?c5 ?_)
          case c2 => intro z hz; simp at hz; subst hz; rfl
          case c3 => unfold maxLen; omega
          case c4 => omega
          case c5 => simp; omega
          intro v' w2 hown' hgrow _
          have hB12 : Below (p + 3) w1 w2 := ((Below.refl _ _).alloc (by omega) _).grown hgrow (by simp; omega) (fun k hk => (HOW.out.lt k hk).1)
          obtain ⟨g2, cap2, cur2, rfl, hg2, hcur2, hnc2, hcm2, hcs2, htk2⟩ : ∃ g2 cap2 cur2, v' = .slice (some ⟨g2, 0, none⟩) (n + 1) cap2 ∧ p + 3 ≤ g2 ∧ w2.heap[g2]? = some (.cells cur2 9 (0, 0)) ∧ n + 1 ≤ cap2 ∧ cap2 ≤ maxLen ∧ cur2.size = cap2 ∧ cur2.toList.take (n + 1) = ns.map strV ++ [strV []] := by
            rcases hown'.2 with ⟨_, h0⟩ | ⟨g', cap', cur', hv, h1, h2, h3, h4, h5, h6⟩
            · omega
            · exact ⟨g', cap', cur', hv, h1, h2, h3, h4, by simpa using h5, by simpa [strV] using h6⟩
          have hp2 : w2.heap[p + 1]? = some (.cells #[.slice a n c] 109 (0, 0)) := by rw [hB12.block (p + 1) (by omega)]; exact HP1.out
          have d0 : w2.cell? ⟨p + 1, 0, none⟩ = some (.slice a n c) := by rw [Lib.cell_of_heap hp2]; rfl
          have f0 : w2.frozen? ⟨p + 1, 0, none⟩ = false := Lib.frozen_of_heap hp2 0
          obtain ⟨w3, hw3⟩ : ∃ w3, w3 = w2.setCell ⟨p + 1, 0, none⟩ (.slice (some ⟨g2, 0, none⟩) (n + 1) cap2) := ⟨_, rfl⟩
          have HB3 : Hid (Below (p + 1) w1 w3) := by show Below _ _ _; rw [hw3]; exact (hB12.mono (by omega)).setCell (by simp) _
          have HC3 : Hid (w3.heap[g2]? = some (.cells cur2 9 (0, 0))) := by show _ = _; rw [hw3, Below.heap_setCell _ _ _ _ (by simp; omega)]; exact hcur2
          have HO3 : Hid (w3.heap[p + 1]? = some (.cells #[.slice (some ⟨g2, 0, none⟩) (n + 1) cap2] 109 (0, 0))) := by show _ = _; rw [hw3]; simp [World.setCell, Array.getElem?_modify, hp2]
          have HF3 : Hid (w3.heap[p + 2]? = w1.heap[p + 2]?) := by show _ = _; rw [hw3, Below.heap_setCell _ _ _ _ (by simp), hB12.block (p + 2) (by omega)]
          have HG2 := hide hg2
          have HTK := hide htk2
          have HCS := hide hcs2
          have HW3 := hide hw3
          clear hown' hgrow hp2 hB12 hcur2 htk2 hcs2 HO2 HOW HP1 hc1' hg2
          go_upto_region 6 with fail
          rw [← HW3.out]
          clear d0 f0 hw3 HW3
          go_cut [63] (fun _ wx => wx.heap[g2]? = some (.cells (splice cur2.toList (q + 1) ((ns.drop q).map strV)).toArray 9 (0, 0)) ∧ Below (p + 3) w3 wx)
          case first =>
            have e0 : w3.cell? ⟨p + 1, 0, none⟩ = some (.slice (some ⟨g2, 0, none⟩) (n + 1) cap2) := by rw [Lib.cell_of_heap HO3.out]; rfl
            have hcl : ((ns.drop q).map strV).length = n - q := by simp [HN.out]
            have hwq : IntKind.i64.wrap ((q : Int) + 1) = (q : Int) + 1 := wrap_next q (by omega)
            have hqn : (q : Int) + 1 ≤ (n : Int) + 1 := by omega
            have hqn3 : (q : Int) ≤ (n : Int) := by omega
            have hqn2 : (q : Int) ≤ (n : Int) + 1 := by omega
            have hq0 : (0 : Int) ≤ (q : Int) + 1 := by omega
            have htn : ((q : Int) + 1).toNat = q + 1 := by omega
            have hcc : cap2 ≠ q := by omega
            have HK2 : Hid (∀ j v, ((ns.drop q).map strV)[j]? = some v → w3.drew.cell? ((⟨g2, q, none⟩ : Addr).add j) = some v) := by
              intro j v hj
              have hjl : j < n - q := by
                by_cases h : j < n - q
                · exact h
                · rw [List.getElem?_eq_none (by rw [hcl]; omega)] at hj; simp at hj
              have e1 : w3.cell? ⟨g2, q + j, none⟩ = some v := by
                rw [Lib.cell_of_heap HC3.out]
                have e2 : (cur2.toList.take (n + 1))[q + j]? = some v := by
                  rw [HTK.out, List.getElem?_append_left (by simp [← HN.out]; omega)]
                  rw [List.map_drop, List.getElem?_drop] at hj
                  exact hj
                rw [List.getElem?_take, if_pos (by omega)] at e2
                simpa using e2
              cases j <;> simpa [Addr.add] using e1
            have HK3 : Hid (∀ v ∈ (ns.drop q).map strV, v.oneCell' = true) := by
              intro v hv
              obtain ⟨y, _, rfl⟩ := List.mem_map.1 hv
              rfl
            have HCL := hide hcl
            clear hcl
            go_region_law (refine step_copy_splice rfl (.tmp 59) (.tmp 62) 109 109 rfl 9 Tryz.underlying109 (by kernel_rfl) _ _ _ _ _ _ rfl rfl g2 (q + 1) cur2.toList 9 (by rw [Array.toArray_toList]; exact HC3.out) ((ns.drop q).map strV) (by rw [HCL.out]; show _ = min _ _; omega) (fun h => ⟨if_neg (by rw [HCL.out] at h; omega), _, rfl, HK2.out⟩) (by rw [HCL.out, Array.length_toList, HCS.out]; omega) HK3.out (p + 3) _ (Below.refl _ _) HG2.out ?_; intro w4 hg4 hb4)
            all_goals (go_wp2_with fail)
            all_goals go_meet
            all_goals exact ⟨hg4.out, ⟨hb4.os, hb4.tape, hb4.output, hb4.size, hb4.block⟩⟩
          case rest =>
            obtain ⟨hg4, hb4⟩ := hcut
            have HG4 := hide hg4
            have HB4 := hide hb4
            have e0 : wc.cell? ⟨p + 1, 0, none⟩ = some (.slice (some ⟨g2, 0, none⟩) (n + 1) cap2) := by rw [hb4.cell (p := ⟨p + 1, 0, none⟩) (by simp), Lib.cell_of_heap HO3.out]; rfl
            have e1 : wc.cell? ⟨g, 1, none⟩ = some (.string ⟨nm.toArray⟩) := by rw [hb4.cell (p := ⟨g, 1, none⟩) (by simp; omega), HB3.out.cell (p := ⟨g, 1, none⟩) (by simp; omega)]; exact hn1
            have e2 : wc.cell? ⟨g, 2, none⟩ = some (.slice none 0 0) := by rw [hb4.cell (p := ⟨g, 2, none⟩) (by simp; omega), HB3.out.cell (p := ⟨g, 2, none⟩) (by simp; omega)]; exact hsv1
            have hsl : (splice cur2.toList (q + 1) ((ns.drop q).map strV)).length = cap2 := by
              rw [length_splice _ _ _ (by simp [← HN.out, HCS.out]; omega), Array.length_toList, HCS.out]
            have e3 : ∃ z, wc.cell? ⟨g2, q, none⟩ = some z := by
              rw [Lib.cell_of_heap hg4]
              exact ⟨_, Array.getElem?_eq_getElem (by rw [List.size_toArray, hsl]; omega)⟩
            obtain ⟨z, e3⟩ := e3
            have f3 : wc.frozen? ⟨g2, q, none⟩ = false := Lib.frozen_of_heap hg4 q
            have HSL := hide hsl
            have hqn : (q : Int) < (n : Int) + 1 := by omega
            have hg2' := HG2.out
            have e5 : (wc.setCell ⟨g2, q, none⟩ (.string ⟨nm.toArray⟩)).cell? ⟨g, 2, none⟩ = some (.slice none 0 0) := by rw [((Below.refl (p + 3) wc).setCell (p := ⟨g2, q, none⟩) (by simp; omega) _).cell (p := ⟨g, 2, none⟩) (by simp; omega)]; exact e2
            clear hg4 hb4 hsl
            go_wp2_with fail
            go_region
            go_wp2_with fail
            go_loopw [76] (fun i wr => i = .int .i64 0 ∧ ∃ d, wr = (wc.setCell ⟨g2, q, none⟩ (strV nm)).drewN d) (fun _ _ => 0)
            case atStart => exact ⟨rfl, 1, rfl⟩
            case round =>
              obtain ⟨rfl, d3, rfl⟩ := hrel
              go_wp2_with fail
              go_end0
              have hend := put_end (nm := nm) HN.out hq HS1.out HB3.out HO3.out HF3.out HB4.out HG4.out HSL.out HG2.out hnc2 hcm2 HCS.out HTK.out
              exact ⟨rfl, by rw [HE.out]; exact hend.1.drewN d3, (HBL.out.trans hend.2).drewM d3⟩
  · simp at hpos
end
section
open Go.RowKit
theorem rnamed_any (x : Ex) : NamedOK x := by
  induction x using Ex.ind with
  | h k nm l ih =>
    intro all p g m ns w h hs hmp hm hsz
    have h' := h
    rw [IsRx.def] at h'
    obtain ⟨_, hwf, _⟩ := h'
    rcases hwf with ⟨h1, rfl, h3⟩ | ⟨h1, h2, h3, h4⟩ | ⟨rfl, rfl, _⟩ | ⟨h1, h2, rfl, _⟩
    · exact named_none k l ⟨by omega, by omega, by omega⟩ ih all p g m ns w h hs hmp hm hsz
    · have hl : l = [] := List.length_eq_zero_iff.1 h4
      subst hl
      rw [Ex.size_eq] at hsz
      by_cases hb : k = 2 ∧ all = false
      · obtain ⟨rfl, rfl⟩ := hb
        have := named_not nm h3 g p m ns w h hs hm
        rw [Ex.named2]
        exact this
      · have hk : (k = 2 ∧ all = true) ∨ k = 3 ∨ k = 4 := by
          cases all
          · have : k ≠ 2 := fun e => hb ⟨e, rfl⟩
            omega
          · simp; omega
        have := named_put all k hk nm h3 g p m ns w h hs hm (by omega)
        have hn : Ex.named all ⟨k, nm, []⟩ = [nm] := by
          rcases hk with ⟨rfl, rfl⟩ | rfl | rfl
          · rw [Ex.named2]; rfl
          · rw [Ex.named3]
          · rw [Ex.named4]
        rw [hn]
        exact this
    · exact named_none 5 l (by decide) ih all p g m ns w h hs hmp hm hsz
    · exact named_none k l ⟨by omega, by omega, by omega⟩ ih all p g m ns w h hs hmp hm hsz
theorem owned_strs {w : World} {B : Nat} {v : Value} {ns : List (List UInt8)} (h : w.ownsRow B 9 1 v ns.length (ns.map strV)) (hl : ns.length ≤ 1000000) : Strs w v (ns.map toBA) := by
  rcases h.2 with ⟨hv, hn⟩ | ⟨g, cap, cur, hv, _, _, hnc, _⟩
  · exact .inl ⟨by simp [List.length_eq_zero_iff.1 hn], _, _, hv⟩
  · refine .inr ⟨g, 0, cap, by rw [hv]; simp, by simp; omega, by simp; omega, ?_⟩
    intro k s hk
    rw [List.getElem?_map] at hk
    cases e : ns[k]? with
    | none => rw [e] at hk; simp at hk
    | some y =>
      rw [e] at hk
      simp only [Option.map_some, Option.some.injEq] at hk
      subst hv
      have hkl : k < ns.length := by
        by_cases h : k < ns.length
        · exact h
        · rw [List.getElem?_eq_none (by omega)] at e; simp at e
      rw [Nat.zero_add, h.cellAt k (by omega), List.getElem?_map, e, ← hk]
      rfl
set_option maxHeartbeats 1000000 in
set_option maxRecDepth 100000 in
theorem Named_all (ok : Nat → Prop) (all : Bool) (x : Ex) (g : Nat) (m : Int) (w : World) (h : IsRx ok w x g) (hlen : x.size ≤ 1000000) (hmp : 3 < w.heap.size) (hm : w.cell? ⟨3, 0, none⟩ = some (.int .i64 m)) :
    Calls Tryz.prog 124 #[.pointer (some ⟨g, 0, none⟩), .string ⟨(kindsOf all).toArray⟩] w fun e w' => ∃ sv, e = .returned sv ∧ Strs w' sv ((ordered (x.named all)).map toBA) ∧ Below w.heap.size w w' := by
  have hmf : ∀ (fn : Fn) (first cap : Array Value) (w : World), (Instr.makeFunc fn first cap).run Tryz.prog w = .ok (.func fn first cap) w := fun _ _ _ _ => rfl
  obtain ⟨kd, hkd⟩ : ∃ kd, kd = kindsOf all := ⟨_, rfl⟩
  obtain ⟨wa, hwa⟩ : ∃ wa, wa = (w.alloc (.cells #[.string ⟨kd.toArray⟩] 9)).alloc (.cells #[.slice none 0 0] 109) := ⟨_, rfl⟩
  obtain ⟨F, hF⟩ : ∃ F, F = Value.func (.func 167) #[] #[.pointer (some ⟨w.heap.size, 0, none⟩), .pointer (some ⟨w.heap.size + 1, 0, none⟩), .pointer (some ⟨w.heap.size + 1 + 1, 0, none⟩)] := ⟨_, rfl⟩
  have hsa : wa.heap.size = w.heap.size + 1 + 1 := by rw [hwa]; simp
  have hba : Below w.heap.size w wa := by rw [hwa]; exact ((Below.refl _ w).alloc (Nat.le_refl _) _).alloc (by simp) _
  have hk1 : wa.heap[w.heap.size]? = some (.cells #[.string ⟨kd.toArray⟩] 9 (0, 0)) := by
    rw [hwa, Below.heap_alloc _ _ _ (by simp)]; exact heap_alloc_new _ _
  have ho1 : wa.heap[w.heap.size + 1]? = some (.cells #[.slice none 0 0] 109 (0, 0)) := by
    have := heap_alloc_new (w.alloc (.cells #[.string ⟨kd.toArray⟩] 9)) (.cells #[.slice none 0 0] 109)
    rw [World.size_alloc] at this
    rw [hwa]; exact this
  have hnew : (wa.alloc (.cells #[.nilFunc] 247)).heap[w.heap.size + 1 + 1]? = some (.cells #[.nilFunc] 247 (0, 0)) := by
    rw [← hsa]; exact heap_alloc_new _ _
  have s0 : (wa.alloc (.cells #[.nilFunc] 247)).cell? ⟨w.heap.size + 1 + 1, 0, none⟩ = some .nilFunc := by rw [Lib.cell_of_heap hnew]; rfl
  have s1 : (wa.alloc (.cells #[.nilFunc] 247)).frozen? ⟨w.heap.size + 1 + 1, 0, none⟩ = false := Lib.frozen_of_heap hnew 0
  obtain ⟨w3, hw3⟩ : ∃ w3, w3 = wa.alloc (.cells #[F] 247) := ⟨_, rfl⟩
  have hb3 : Below (w.heap.size + 1 + 1) wa w3 := by rw [hw3]; exact (Below.refl _ wa).alloc (by omega) _
  have hf3 : w3.heap[w.heap.size + 1 + 1]? = some (.cells #[F] 247 (0, 0)) := by rw [hw3, ← hsa]; exact heap_alloc_new _ _
  have hbw : Below w.heap.size w w3 := hba.trans (hb3.mono (by omega))
  have hs3 : Sn w.heap.size kd [] w3 := ⟨by rw [hb3.block _ (by omega)]; exact hk1, ⟨_, by rw [hb3.block _ (by omega)]; exact ho1, World.ownsRow_nil _ _ _ _⟩, by rw [← hF]; exact hf3⟩
  have hx3 : IsRx (fun g => g < w.heap.size) w3 x g := IsRx.stay (Stay.below hbw) (fun g hg => hg.2) x g (IsRx.lt x g h)
  have hm3 : w3.cell? ⟨3, 0, none⟩ = some (.int .i64 m) := by rw [hbw.cell (p := ⟨3, 0, none⟩) hmp]; exact hm
  have HC := hide (rnamed_any x all w.heap.size g m [] w3 hx3 (by rw [← hkd]; exact hs3) hmp hm3 (by simpa using hlen))
  rw [← hkd] at HC
  rw [← hkd]
  have HL := hide (insAll_len (x.named all) [])
  have HNL := hide (Ex.named_le all x)
  have HBW := hide hbw
  have HW3 := hide hw3
  have HWA := hide hwa
  have HF := hide hF
  have c3 : w3.cell? ⟨w.heap.size + 1 + 1, 0, none⟩ = some F := by rw [Lib.cell_of_heap hf3]; rfl
  rw [hw3, hF] at c3
  rw [hw3, hF] at HC
  rw [hwa] at s0 s1 c3 HC
  clear hsa hba hk1 ho1 hnew hb3 hf3 hbw hs3 hx3 hm3 hkd h hm hwa hF hw3
  go_enter Tryz.func124, Tryz.ntmps124
  go_wp2_with fail
  refine HC.out.mono ?_
  rintro e w1 ⟨rfl, hs, hb⟩
  obtain ⟨v, hp, ho⟩ := hs.o
  have c0 : w1.cell? ⟨w.heap.size + 1, 0, none⟩ = some v := by rw [Lib.cell_of_heap hp]; rfl
  have HO := hide ho
  have HB := hide hb
  obtain ⟨a, c, rfl⟩ := ownsRow_shape ho
  generalize hnn : (insAll [] (x.named all)).length = n at *
  have HNN := hide hnn
  clear hs hp ho hb hnn HC s0 s1 c3
  go_wp2_with fail
  go_ret
  refine ⟨.slice a n c, rfl, ?_, ?_⟩
  · rw [← insAll_ordered]
    exact owned_strs (B := w.heap.size + 3) (by rw [HNN.out]; exact HO.out) (by rw [HNN.out]; have h1 := HL.out; have h2 := HNL.out; simp only [List.length_nil] at h1; omega)
  · have := HB.out
    rw [← HWA.out, ← HF.out, ← HW3.out] at this
    exact HBW.out.trans this
set_option maxHeartbeats 1000000 in
set_option maxRecDepth 100000 in
theorem RNames_any (ok : Nat → Prop) (x : Ex) (g : Nat) (m : Int) (w : World) (h : IsRx ok w x g) (hlen : x.size ≤ 1000000) (hmp : 3 < w.heap.size) (hm : w.cell? ⟨3, 0, none⟩ = some (.int .i64 m)) :
    Calls Tryz.prog 86 #[.pointer (some ⟨g, 0, none⟩)] w fun e w' => ∃ sv, e = .returned sv ∧ Strs w' sv ((ordered (x.named true)).map toBA) ∧ Below w.heap.size w w' := by
  have HC := hide (Named_all ok true x g m w h hlen hmp hm)
  clear h hm
  go_enter Tryz.func86, Tryz.ntmps86
  go_wp2_with fail
  refine HC.out.mono ?_
  rintro e w1 ⟨sv, rfl, hs, hb⟩
  have HS := hide hs
  have HB := hide hb
  obtain ⟨a2, n2, c2, hsv2⟩ : ∃ a n c, sv = .slice a n c := by
    rcases hs with ⟨_, a, cap, h⟩ | ⟨g, o, cap, h, _⟩
    · exact ⟨_, _, _, h⟩
    · exact ⟨_, _, _, h⟩
  subst hsv2
  clear hs hb
  go_wp2_with fail
  go_ret
  exact ⟨.slice a2 n2 c2, rfl, HS.out, HB.out⟩
end
end Go.Proofs.YtkpfahbodlfpiaaGreatDoor
