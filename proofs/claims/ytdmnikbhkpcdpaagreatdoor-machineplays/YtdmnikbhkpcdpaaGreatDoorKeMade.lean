/-
  The walk of the statements' own made: a machine of few states and inputs.
-/
import Derived.Test.YtdmnikbhkpcdpaaGreatDoorKeMapAll
namespace Go.Proofs.YtdmnikbhkpcdpaaGreatDoor
open Go.RowKit Go.Maps
/-- a program of which there is a machine of few states and inputs -/
def fewP (most : Nat) : Option Ld.Prg → Option Ld.Prg
  | none => none
  | some p => if (Ld.kindL p.names 1).length ≤ 4 ∧ Mc.total (Mc.parts p) ≤ most then some p else none
def madeP (s : ByteArray) (most : Nat) : Option Ld.Prg := fewP most (readP s)
def KMade (w : World) (r : Option Ld.Prg) (e : Ending) (w' : World) : Prop := Below w.heap.size w w' ∧ match r with
  | none => e = .returned (.tuple #[.pointer none, .bool false])
  | some p => ∃ bm, e = .returned (.tuple #[.pointer (some ⟨bm, 0, none⟩), .bool true]) ∧ w.heap.size ≤ bm ∧ IsMach w' bm p ∧ Ld.check p = none
theorem ptrNeq (w : World) (a : Addr) : (binOp BinOp.neq 23 (.pointer (some a)) (.pointer none)).run Tryz.prog w = .ok (.bool true) w := by kernel_rfl
theorem total_succ (p : Ld.Prg) (k : Nat) (hk : k < p.names.length) : Mc.total ((Mc.parts p).take (k + 1)) = Mc.total ((Mc.parts p).take k) * (Mc.part p k).1 := by
  have hkl : k < (Mc.parts p).length := by rw [Mc.parts_len]; exact hk
  have e := Mc.parts_at p k hk
  rw [List.getElem?_eq_getElem hkl] at e
  rw [List.take_succ_eq_append_getElem hkl, Mc.total_snoc, Option.some.inj e]
theorem part_of (p : Ld.Prg) (k : Nat) (y : Ld.Nme) (hy : p.names[k]? = some y) (h1 : 1 ≤ y.kind) (h4 : y.kind ≤ 4) : (Mc.part p k).1 = if 3 ≤ y.kind then y.count.toNat + 1 else if y.kind = 2 then 2 else if (Ld.edges p).contains k then 2 else 1 := by
  unfold Mc.part
  rw [hy]
  simp only
  by_cases h3 : 3 ≤ y.kind
  · rw [if_pos (by omega), if_pos h3]
  · rw [if_neg (by omega), if_neg h3]
    split
    · rfl
    · split <;> rfl
set_option maxHeartbeats 8000000 in
set_option maxRecDepth 100000 in
theorem kmade_any (s : ByteArray) (most : Nat) (w : World) (hs : s.size ≤ maxLen) (hL : Laid w) (hmost : most ≤ 400) :
    Calls Tryz.prog 8 #[.string s, .int .i64 (most : Int)] w (KMade w (madeP s most)) := by
  have hmm := @run_makeMap Tryz.prog
  have HRD := hide (kread_any s w hs hL)
  obtain ⟨T, hT⟩ : ∃ T, T = readP s := ⟨_, rfl⟩
  have HMP : Hid (madeP s most = fewP most T) := by show _ = _; rw [madeP, hT]
  rw [← hT] at HRD
  clear hT hL hs
  go_enter Tryz.func8, Tryz.ntmps8
  go_wp2_with fail
  refine HRD.out.mono ?_
  intro e w1 hq
  clear HRD
  match T, hq, HMP with
  | none, hq, HMP =>
    obtain ⟨hb1, rfl⟩ := hq
    have HBA : Hid (Below w.heap.size w (w1.alloc (.cells #[.slice none 0 0, .slice none 0 0] 30))) := hb1.alloc hb1.size _
    clear hb1
    go_wp2_with fail
    refine bodyPost_ret (results_tmp2 rfl _ _ _) rfl ?_
    rw [HMP.out]
    exact ⟨HBA.out, rfl⟩
  | some p, hq, HMP =>
    obtain ⟨hb1, v, rfl, hp1, hck⟩ := hq
    have HPR := hide hp1
    have HCK := hide hck
    obtain ⟨nv, rv, rfl, hn, hr⟩ := hp1
    have HNA := hide hn
    obtain ⟨na, nc, rfl, _⟩ := hn.slice
    obtain ⟨ra, rk, rc, rfl⟩ := slice_ofR hr
    obtain ⟨n, hnn⟩ : ∃ n, n = p.names.length := ⟨_, rfl⟩
    have HN := hide hnn
    have hn12 : n ≤ 12 := by rw [hnn]; exact (Ld.check_names p hck).1
    rw [← hnn] at HPR HNA ⊢
    obtain ⟨wA, hwA⟩ : ∃ wA, wA = w1.alloc (.cells #[.slice na n nc, .slice ra rk rc] 30) := ⟨_, rfl⟩
    have hbA : Below w1.heap.size w1 wA := by rw [hwA]; exact (Below.refl _ _).alloc (Nat.le_refl _) _
    have hsA : wA.heap.size = w1.heap.size + 1 := by rw [hwA]; simp
    have hA : wA.heap[w1.heap.size]? = some (.cells #[.slice na n nc, .slice ra rk rc] 30 (0, 0)) := by rw [hwA]; exact heap_alloc_new _ _
    have HX : Hid (∀ W, Below wA.heap.size wA W → W.cell? ⟨w1.heap.size, 0, none⟩ = some (.slice na n nc) ∧ W.cell? ⟨w1.heap.size, 1, none⟩ = some (.slice ra rk rc) ∧ Below w1.heap.size w1 W) := by
      intro W hW
      have e0 := (hW.block w1.heap.size (by omega)).trans hA
      exact ⟨by rw [Lib.cell_of_heap e0]; rfl, by rw [Lib.cell_of_heap e0]; rfl, hbA.trans (hW.mono (by omega))⟩
    have HKI := hide (Kind_any p.names (.slice na n nc) (.slice ra rk rc) 1 wA (HNA.out.below hbA) ⟨_, _, _, rfl⟩)
    rw [hwA] at HKI
    obtain ⟨q, hqq⟩ : ∃ q, q = (Ld.kindL p.names 1).length := ⟨_, rfl⟩
    have HQ := hide hqq
    have hq12 : q ≤ 12 := by rw [hqq]; exact Nat.le_trans (Ld.placesTo_le _ _ _) (Ld.check_names p hck).1
    rw [← hqq] at HKI
    have HWA := hide hwA
    have HB1 := hide hb1
    clear hwA hbA hA hqq hn hr hnn hck hb1
    go_wp2_with fail
    refine HKI.out.mono ?_
    rintro e w2 ⟨kv, rfl, hown, hb2⟩
    obtain ⟨ka, kc, rfl⟩ := own_slice hown
    rw [← HWA.out] at hb2
    have HB2 := hide hb2
    clear hown hb2 HKI
    by_cases hq4 : 4 < q
    · have hq4' : (4 : Int) < (q : Int) := by omega
      go_wp2_with fail
      refine bodyPost_ret (results_tmp2 rfl _ _ _) rfl ?_
      rw [HMP.out]
      exact ⟨HB1.out.trans ((HX.out _ HB2.out).2.2.mono HB1.out.size), by simp only [fewP]; rw [if_neg (by rw [← HQ.out]; omega)]; rfl⟩
    have hq4' : ¬ (4 : Int) < (q : Int) := by omega
    obtain ⟨wM, hwM⟩ : ∃ wM, wM = w2.alloc (.map #[] 0) := ⟨_, rfl⟩
    have hbM : Below w2.heap.size w2 wM := by rw [hwM]; exact (Below.refl _ _).alloc (Nat.le_refl _) _
    have HBM : Hid (Below wA.heap.size wA wM) := HB2.out.trans (hbM.mono HB2.out.size)
    have HBM2 := hide hbM
    have hsM : wM.heap.size = w2.heap.size + 1 := by rw [hwM]; simp
    have HEM : Hid (EdgeMap wM w2.heap.size 0 (.map []) (fun _ => false)) := by rw [hwM]; exact EdgeMap.made w2
    obtain ⟨d0, d1, hwm⟩ := HX.out wM HBM.out
    have HED := hide (LEdges_any p _ wM (HPR.out.below hwm) HCK.out)
    have HSA := hide hsA
    have hs2 : w1.heap.size < w2.heap.size := by have := HB2.out.size; omega
    have d0' : (w2.alloc (.map #[] 0)).cell? ⟨w1.heap.size, 0, none⟩ = some (.slice na n nc) := by rw [← hwM]; exact d0
    have d1' : (w2.alloc (.map #[] 0)).cell? ⟨w1.heap.size, 1, none⟩ = some (.slice ra rk rc) := by rw [← hwM]; exact d1
    rw [hwM] at HED
    have HWM := hide hwM
    clear hwM hbM hwm d0 d1 hsA
    go_wp2_with fail
    refine HED.out.mono ?_
    rintro e w3 ⟨u, rfl, hown, hb3⟩
    rw [← HWM.out] at hown hb3
    obtain ⟨ea, ec, rfl⟩ := own_slice hown
    obtain ⟨m, hmE⟩ : ∃ m, m = (Ld.edges p).length := ⟨_, rfl⟩
    have HME := hide hmE
    have HCE : Hid (∀ k, k < m → ∃ ga, ea = some ⟨ga, 0, none⟩ ∧ m ≤ ec ∧ ga ≠ w2.heap.size ∧ ∀ (j x : Nat), (Ld.edges p)[j]? = some x → w3.cell? ⟨ga, j, none⟩ = some (.int .i64 (x : Int))) := by
      intro k hk
      rcases hown.2 with ⟨_, h0⟩ | ⟨g, cap, cur, h1, hg, hcur, hcap, _, _, htk⟩
      · omega
      · simp only [Value.slice.injEq] at h1
        exact ⟨g, h1.1, by rw [h1.2.2, hmE]; exact hcap, by omega, fun j x hj => row_cell hcur htk (by rw [List.getElem?_map, hj]; rfl)⟩
    have HE3 := hide (HEM.out.kept (hb3.block w2.heap.size (by omega)))
    have HB3 := hide (HBM.out.trans (hb3.mono HBM.out.size))
    have HB23 := hide (HBM2.out.trans (hb3.mono HBM2.out.size))
    have hs3 : w2.heap.size < w3.heap.size := by have := hb3.size; omega
    have hm1 : m ≤ 12 := by rw [hmE]; exact Nat.le_trans (Ld.placesTo_le _ _ _) (Ld.check_names p HCK.out).1
    have HEL : Hid (∀ (j x : Nat), (Ld.edges p)[j]? = some x → x ≤ 100000) := by
      intro j x hj
      have := List.mem_of_getElem? hj
      unfold Ld.edges Ld.placesTo at this
      have := List.mem_range.1 (List.mem_filter.1 this).1
      have h2 := (Ld.check_names p HCK.out).1
      omega
    rw [← hmE]
    clear hmE hown hb3 HED HEM d0' d1'
    go_wp2_with fail
    go_loopw [10] (fun i wr => ∃ k : Nat, k ≤ m ∧ i = .int .i64 (k : Int) ∧ Hid (∃ D, EdgeMap wr w2.heap.size k D (fun x => ((Ld.edges p).take k).contains x)) ∧ Hid (w3.heap.size ≤ wr.heap.size ∧ ∀ b, b < w3.heap.size → b ≠ w2.heap.size → wr.heap[b]? = w3.heap[b]?) ∧ Hid (Below w2.heap.size w2 wr)) (fun i _ => m - (intOf i).toNat)
    case atStart => exact ⟨0, Nat.zero_le _, rfl, ⟨_, HE3.out⟩, ⟨Nat.le_refl _, fun _ _ _ => rfl⟩, HB23.out⟩
    case round =>
      obtain ⟨k, hk, rfl, HED, HOLD, HB⟩ := hrel
      by_cases hlt : k < m
      · obtain ⟨ga, rfl, hcap, hga, hcells⟩ := HCE.out k hlt
        have hkE : k < (Ld.edges p).length := by rw [← HME.out]; exact hlt
        have hxk := List.getElem?_eq_getElem hkE
        have c3 := hcells k _ hxk
        have hx5 := HEL.out k _ hxk
        have hg3 : ga < w3.heap.size := World.block_lt_of_cell? _ _ c3
        have c0 : wr.cell? ⟨ga, k, none⟩ = some (.int .i64 ((Ld.edges p)[k] : Int)) := (World.cell?_of_block (w' := wr) (w := w3) (HOLD.out.2 ga hg3 hga)).trans c3
        obtain ⟨D, hem⟩ := HED.out
        have HEMK := hide hem
        have HTK := hide (List.take_succ_eq_append_getElem hkE)
        generalize (Ld.edges p)[k] = x at *
        clear c3 hcells hxk
        go_wp2_with (first | (at_mapUpdate; refine wpList_mapUpdate_own _ rfl _ _ _ 83 rfl 3 4 lawI Tryz.underlying83 _ w2.heap.size k _ rfl HEMK.out.1 (by unfold maxLen; omega) _ _ _ rfl rfl (key_int x hx5) _ [] (plainElem_bool Tryz.underlying4 true) ?_; intro w4 hown4 hgrow4) | fail)
        have HE4 := hide (hem.put x hown4)
        go_roundw
        case rel =>
          refine ⟨k + 1, by omega, by go_num, ⟨D.put (.int .i64 (x : Int)) (.lit (.bool true)), ?_⟩, ⟨Nat.le_trans HOLD.out.1 hgrow4.size, fun b hb hne => ?_⟩, HB.out.grown hgrow4 HB.out.size (fun j hj => by cases hj; exact Nat.le_refl _)⟩
          · have e : (fun y => ((Ld.edges p).take (k + 1)).contains y) = (fun y => ((Ld.edges p).take k).contains y || y == x) := by
              funext y; rw [HTK.out]; simp only [List.contains_append, List.contains_cons, List.contains_nil, Bool.or_false]
            rw [e]; exact HE4.out
          · exact (hgrow4.block b (Nat.lt_of_lt_of_le hb HOLD.out.1) (by intro e; cases e; exact hne rfl)).trans (HOLD.out.2 b hb hne)
        case measure => simp [intOf]; omega
      · have hkm : k = m := by omega
        subst hkm
        obtain ⟨D, hem⟩ := HED.out
        rw [List.take_of_length_le (by rw [← HME.out]; exact Nat.le_refl _)] at hem
        obtain ⟨wo, rfl⟩ : ∃ wo, wo = wr := ⟨_, rfl⟩
        have hw2o : w2.heap.size < wo.heap.size := hem.lt
        have HEMO := hide hem
        have HBO : Hid (Below wA.heap.size wA wo) := HB2.out.trans (HB.out.mono HB2.out.size)
        clear hem HED
        go_wp2_with fail
        go_loopw [8, 12] (fun c i wr => ∃ j : Nat, j ≤ n ∧ i = .int .i64 (j : Int) ∧ c = .int .i64 (Mc.total ((Mc.parts p).take j) : Int) ∧ Mc.total ((Mc.parts p).take j) ≤ 3200 ∧ Hid (Below wo.heap.size wo wr)) (fun _ i _ => n - (intOf i).toNat)
        case atStart => exact ⟨0, Nat.zero_le _, rfl, rfl, by simp [Mc.total], Below.refl _ _⟩
        case round =>
          obtain ⟨j, hj, rfl, rfl, h32, HBJ⟩ := hrel
          have hbJ : Below wA.heap.size wA wr := HBO.out.trans (HBJ.out.mono HBO.out.size)
          obtain ⟨d0, d1, hwJ⟩ := HX.out wr hbJ
          have hw1r : w1.heap.size < wr.heap.size := World.block_lt_of_cell? _ _ d0
          by_cases hbig : most < Mc.total ((Mc.parts p).take j)
          · have hbi : ¬ ((Mc.total ((Mc.parts p).take j) : Int) ≤ (most : Int)) := by omega
            have hbi2 : (most : Int) < (Mc.total ((Mc.parts p).take j) : Int) := by omega
            have HNO : Hid (¬ Mc.total (Mc.parts p) ≤ most) := by
              have := Mc.total_le (Mc.parts p) (Mc.parts_ok p) j
              show ¬ _; omega
            have HBW := hide (HB1.out.trans (hwJ.mono HB1.out.size))
            clear hbJ hwJ
            generalize Mc.total ((Mc.parts p).take j) = c at *
            go_wp2_with fail
            all_goals
              refine bodyPost_ret (results_tmp2 rfl _ _ _) rfl ?_
              rw [HMP.out]
              exact ⟨HBW.out, by simp only [fewP]; rw [if_neg (fun h => HNO.out h.2)]; rfl⟩
          have hbi : (Mc.total ((Mc.parts p).take j) : Int) ≤ (most : Int) := by omega
          by_cases hlt : j < n
          · have hjl : j < p.names.length := by rw [← HN.out]; exact hlt
            have hyj := List.getElem?_eq_getElem hjl
            obtain ⟨gn, hna, hcn, y1, y2, y3, y4, y5, y6⟩ : ∃ g, na = some ⟨g, 0, none⟩ ∧ n ≤ nc ∧ NameAt wr g j p.names[j] := by
              rcases HNA.out.below hwJ with ⟨h0, _⟩ | ⟨g, cap, h1, h2, h3, h4⟩
              · rw [h0] at hjl; simp at hjl
              · simp only [Value.slice.injEq] at h1
                exact ⟨g, h1.1, by rw [h1.2.2, h1.2.1]; exact h2, h4 j _ hyj⟩
            subst hna
            obtain ⟨m1, m4, m3, m2⟩ := Sc.may p HCK.out j hjl
            have HTS := hide (total_succ p j hjl)
            have HPO := hide (part_of p j _ hyj m1 m4)
            have hgn : gn < wr.heap.size := World.block_lt_of_cell? _ _ y1
            have HBN : Hid (∀ o, Below wo.heap.size wo (wr.alloc o)) := fun o => HBJ.out.alloc HBJ.out.size o
            have HEMR : Hid (∀ o, EdgeMap (wr.alloc o) w2.heap.size k D (fun x => (Ld.edges p).contains x)) := fun o => HEMO.out.kept ((HBN.out o).block _ hw2o)
            generalize p.names[j] = y at *
            obtain ⟨ynm, yk, yc⟩ := y
            simp only at y1 y2 y3 y4 y5 y6 m1 m2 m3 m4 HPO
            have lk := fun o => (HEMR.out o).look j (by omega)
            obtain ⟨eb, heb⟩ : ∃ eb, eb = (Ld.edges p).contains j := ⟨_, rfl⟩
            rw [← heb] at HPO
            simp only [← heb] at lk
            obtain ⟨c, hc⟩ : ∃ c, c = Mc.total ((Mc.parts p).take j) := ⟨_, rfl⟩
            rw [← hc] at HTS hbi hbig h32 ⊢
            have hc4 : c ≤ 400 := by omega
            clear hbJ hwJ hyj heb hc
            rcases (show yk = 1 ∨ yk = 2 ∨ 3 ≤ yk by omega) with e | e | e
            · subst e
              have HP1 := HPO.out
              rw [if_neg (by decide), if_neg (by decide)] at HP1
              cases eb with
              | true =>
                have HT2 : Hid (Mc.total ((Mc.parts p).take (j + 1)) = c * 2) := by have := HTS.out; rw [HP1] at this; exact this
                clear HP1
                go_wp2_with fail
                exact ⟨⟨j + 1, by omega, by go_num, by rw [HT2.out]; go_num, by rw [HT2.out]; omega, HBN.out _⟩, by simp [intOf]; omega⟩
              | false =>
                have HT2 : Hid (Mc.total ((Mc.parts p).take (j + 1)) = c) := by show _ = _; have := HTS.out; rw [HP1] at this; simpa using this
                clear HP1
                go_wp2_with fail
                exact ⟨⟨j + 1, by omega, by go_num, by rw [HT2.out], by rw [HT2.out]; omega, HBN.out _⟩, by simp [intOf]; omega⟩
            · subst e
              have HP1 := HPO.out
              rw [if_neg (by decide), if_pos rfl] at HP1
              have HT2 : Hid (Mc.total ((Mc.parts p).take (j + 1)) = c * 2) := by have := HTS.out; rw [HP1] at this; exact this
              clear HP1 lk
              go_wp2_with fail
              exact ⟨⟨j + 1, by omega, by go_num, by rw [HT2.out]; go_num, by rw [HT2.out]; omega, HBN.out _⟩, by simp [intOf]; omega⟩
            · have HP1 := HPO.out
              rw [if_pos e] at HP1
              obtain ⟨m5, m6⟩ := m3 e
              obtain ⟨t, ht⟩ : ∃ t, t = c * (yc.toNat + 1) := ⟨_, rfl⟩
              have HT2 : Hid (Mc.total ((Mc.parts p).take (j + 1)) = t) := by have := HTS.out; rw [HP1, ← ht] at this; exact this
              have htb : t ≤ 3200 := by
                have h8 : yc.toNat + 1 ≤ 8 := by omega
                have := Nat.mul_le_mul hc4 h8
                omega
              have hti : (c : Int) * (yc + 1) = (t : Int) := by
                rw [ht, Int.natCast_mul]
                have : ((yc.toNat + 1 : Nat) : Int) = yc + 1 := by omega
                rw [this]
              have e1 : ¬ yk = 1 := by omega
              have e2 : ¬ yk = 2 := by omega
              clear HP1 lk ht
              go_wp2_with fail
              exact ⟨⟨j + 1, by omega, by go_num, by rw [HT2.out], by rw [HT2.out]; omega, HBN.out _⟩, by simp [intOf]; omega⟩
          · have hjn : j = n := by omega
            subst hjn
            have eT : (Mc.parts p).take j = Mc.parts p := List.take_of_length_le (by rw [Mc.parts_len, ← HN.out]; exact Nat.le_refl _)
            rw [eT] at hbi hbig h32 ⊢
            have HOF := hide (Of_any p _ wr (HPR.out.below hwJ) HCK.out)
            have HBW := hide (HB1.out.trans (hwJ.mono HB1.out.size))
            have HMP2 : Hid (madeP s most = some p) := by
              have := HMP.out
              simp only [fewP] at this
              rw [if_pos ⟨by rw [← HQ.out]; omega, by omega⟩] at this
              exact this
            have HIF : Hid ((Ld.kindL p.names 1).length ≤ 6 ∧ Mc.total (Mc.parts p) ≤ 4096) := ⟨by rw [← HQ.out]; omega, by omega⟩
            have pq := fun w a => ptrNeq w a
            clear hbJ hwJ eT
            have hbi3 : ¬ ((most : Int) < (Mc.total (Mc.parts p) : Int)) := by omega
            generalize hcT : Mc.total (Mc.parts p) = c at hbi hbig h32 hbi3 ⊢
            have HCT := hide hcT
            clear hcT
            go_wp2_with fail
            refine HOF.out.mono ?_
            rintro e w5 ⟨hb5, hres⟩
            rw [if_pos HIF.out] at hres
            obtain ⟨bm, rfl, hbm, hmach⟩ := hres
            have HB5 := hide (HBW.out.trans (hb5.mono HBW.out.size))
            have HMA := hide hmach
            have hz := HBW.out.size
            clear hb5 hmach HOF
            go_wp2_with fail
            refine bodyPost_ret (results_tmp2 rfl _ _ _) rfl ?_
            rw [HMP2.out]
            exact ⟨HB5.out, bm, rfl, by omega, HMA.out, HCK.out⟩
end Go.Proofs.YtdmnikbhkpcdpaaGreatDoor
