/-
  The walk of the statements' own made: a machine of few states and inputs. Plain facts: a latch, and its machine. The walk of the statements' own machined: a latch's machine. A machine's table, state by state.
-/
import Derived.Test.YtdmnikbhkpcdpaaGreatDoorKeMapAll
import Derived.Test.YtdmnikbhkpcdpaaGreatDoorMcCopiedAll
import Derived.Test.YtdmnikbhkpcdpaaGreatDoorMcPlaysAll
import Derived.Test.YtdmnikbhkpcdpaaGreatDoorKePickAll
import Derived.Test.YtdmnikbhkpcdpaaGreatDoorRcRowAll
namespace Go.Proofs.YtdmnikbhkpcdpaaGreatDoor
section
open Go.RowKit Go.Maps
/-- a program of which there is a machine of few states and inputs -/
def fewP (most : Nat) : Option Ld.Prg → Option Ld.Prg
  | none => none
  | some p => if (Ld.kindL p.names 1).length ≤ 4 ∧ Mc.total (Mc.parts p) ≤ most then some p else none
def madeP (s : ByteArray) (most : Nat) : Option Ld.Prg := fewP most (readP s)
def KMade (w : World) (r : Option Ld.Prg) (e : Ending) (w' : World) : Prop := Below w.heap.size w w' ∧ match r with
  | none => e = .returned (.tuple #[.pointer none, .bool false])
  | some p => ∃ bm, e = .returned (.tuple #[.pointer (some ⟨bm, 0, none⟩), .bool true]) ∧ w.heap.size ≤ bm ∧ IsMach w' bm p ∧ Ld.check p = none
theorem ptrNeq (w : World) (a : Addr) : (binOp BinOp.neq 23 (.pointer (some a)) (.pointer none)).run Tryz.prog w = .ok (.bool true) w := by kernel_rfl
theorem total_succ (p : Ld.Prg) (k : Nat) (hk : k < p.names.length) : Mc.total ((Mc.parts p).take (k + 1)) = Mc.total ((Mc.parts p).take k) * (Mc.part p k).1 := by
  have hkl : k < (Mc.parts p).length := by rw [Mc.parts_len]; exact hk
  have e := Mc.parts_at p k hk
  rw [List.getElem?_eq_getElem hkl] at e
  rw [List.take_succ_eq_append_getElem hkl, Mc.total_snoc, Option.some.inj e]
theorem part_of (p : Ld.Prg) (k : Nat) (y : Ld.Nme) (hy : p.names[k]? = some y) (h1 : 1 ≤ y.kind) (h4 : y.kind ≤ 4) : (Mc.part p k).1 = if 3 ≤ y.kind then y.count.toNat + 1 else if y.kind = 2 then 2 else if (Ld.edges p).contains k then 2 else 1 := by
  unfold Mc.part
  rw [hy]
  simp only
  by_cases h3 : 3 ≤ y.kind
  · rw [if_pos (by omega), if_pos h3]
  · rw [if_neg (by omega), if_neg h3]
    split
    · rfl
    · split <;> rfl
set_option maxHeartbeats 8000000 in
set_option maxRecDepth 100000 in
theorem kmade_any (s : ByteArray) (most : Nat) (w : World) (hs : s.size ≤ maxLen) (hL : Laid w) (hmost : most ≤ 400) :
    Calls Tryz.prog 8 #[.string s, .int .i64 (most : Int)] w (KMade w (madeP s most)) := by
  have hmm := @run_makeMap Tryz.prog
  have HRD := hide (kread_any s w hs hL)
  obtain ⟨T, hT⟩ : ∃ T, T = readP s := ⟨_, rfl⟩
  have HMP : Hid (madeP s most = fewP most T) := by show _ = _; rw [madeP, hT]
  rw [← hT] at HRD
  clear hT hL hs
  go_enter Tryz.func8, Tryz.ntmps8
  go_wp2_with fail
  refine HRD.out.mono ?_
  intro e w1 hq
  clear HRD
  match T, hq, HMP with
  | none, hq, HMP =>
    obtain ⟨hb1, rfl⟩ := hq
    have HBA : Hid (Below w.heap.size w (w1.alloc (.cells #[.slice none 0 0, .slice none 0 0] 30))) := hb1.alloc hb1.size _
    clear hb1
    go_wp2_with fail
    refine bodyPost_ret (results_tmp2 rfl _ _ _) rfl ?_
    rw [HMP.out]
    exact ⟨HBA.out, rfl⟩
  | some p, hq, HMP =>
    obtain ⟨hb1, v, rfl, hp1, hck⟩ := hq
    have HPR := hide hp1
    have HCK := hide hck
    obtain ⟨nv, rv, rfl, hn, hr⟩ := hp1
    have HNA := hide hn
    obtain ⟨na, nc, rfl, _⟩ := hn.slice
    obtain ⟨ra, rk, rc, rfl⟩ := slice_ofR hr
    obtain ⟨n, hnn⟩ : ∃ n, n = p.names.length := ⟨_, rfl⟩
    have HN := hide hnn
    have hn12 : n ≤ 12 := by rw [hnn]; exact (Ld.check_names p hck).1
    rw [← hnn] at HPR HNA ⊢
    obtain ⟨wA, hwA⟩ : ∃ wA, wA = w1.alloc (.cells #[.slice na n nc, .slice ra rk rc] 30) := ⟨_, rfl⟩
    have hbA : Below w1.heap.size w1 wA := by rw [hwA]; exact (Below.refl _ _).alloc (Nat.le_refl _) _
    have hsA : wA.heap.size = w1.heap.size + 1 := by rw [hwA]; simp
    have hA : wA.heap[w1.heap.size]? = some (.cells #[.slice na n nc, .slice ra rk rc] 30 (0, 0)) := by rw [hwA]; exact heap_alloc_new _ _
    have HX : Hid (∀ W, Below wA.heap.size wA W → W.cell? ⟨w1.heap.size, 0, none⟩ = some (.slice na n nc) ∧ W.cell? ⟨w1.heap.size, 1, none⟩ = some (.slice ra rk rc) ∧ Below w1.heap.size w1 W) := by
      intro W hW
      have e0 := (hW.block w1.heap.size (by omega)).trans hA
      exact ⟨by rw [Lib.cell_of_heap e0]; rfl, by rw [Lib.cell_of_heap e0]; rfl, hbA.trans (hW.mono (by omega))⟩
    have HKI := hide (Kind_any p.names (.slice na n nc) (.slice ra rk rc) 1 wA (HNA.out.below hbA) ⟨_, _, _, rfl⟩)
    rw [hwA] at HKI
    obtain ⟨q, hqq⟩ : ∃ q, q = (Ld.kindL p.names 1).length := ⟨_, rfl⟩
    have HQ := hide hqq
    have hq12 : q ≤ 12 := by rw [hqq]; exact Nat.le_trans (Ld.placesTo_le _ _ _) (Ld.check_names p hck).1
    rw [← hqq] at HKI
    have HWA := hide hwA
    have HB1 := hide hb1
    clear hwA hbA hA hqq hn hr hnn hck hb1
    go_wp2_with fail
    refine HKI.out.mono ?_
    rintro e w2 ⟨kv, rfl, hown, hb2⟩
    obtain ⟨ka, kc, rfl⟩ := own_slice hown
    rw [← HWA.out] at hb2
    have HB2 := hide hb2
    clear hown hb2 HKI
    by_cases hq4 : 4 < q
    · have hq4' : (4 : Int) < (q : Int) := by omega
      go_wp2_with fail
      refine bodyPost_ret (results_tmp2 rfl _ _ _) rfl ?_
      rw [HMP.out]
      exact ⟨HB1.out.trans ((HX.out _ HB2.out).2.2.mono HB1.out.size), by simp only [fewP]; rw [if_neg (by rw [← HQ.out]; omega)]; rfl⟩
    have hq4' : ¬ (4 : Int) < (q : Int) := by omega
    obtain ⟨wM, hwM⟩ : ∃ wM, wM = w2.alloc (.map #[] 0) := ⟨_, rfl⟩
    have hbM : Below w2.heap.size w2 wM := by rw [hwM]; exact (Below.refl _ _).alloc (Nat.le_refl _) _
    have HBM : Hid (Below wA.heap.size wA wM) := HB2.out.trans (hbM.mono HB2.out.size)
    have HBM2 := hide hbM
    have hsM : wM.heap.size = w2.heap.size + 1 := by rw [hwM]; simp
    have HEM : Hid (EdgeMap wM w2.heap.size 0 (.map []) (fun _ => false)) := by rw [hwM]; exact EdgeMap.made w2
    obtain ⟨d0, d1, hwm⟩ := HX.out wM HBM.out
    have HED := hide (LEdges_any p _ wM (HPR.out.below hwm) HCK.out)
    have HSA := hide hsA
    have hs2 : w1.heap.size < w2.heap.size := by have := HB2.out.size; omega
    have d0' : (w2.alloc (.map #[] 0)).cell? ⟨w1.heap.size, 0, none⟩ = some (.slice na n nc) := by rw [← hwM]; exact d0
    have d1' : (w2.alloc (.map #[] 0)).cell? ⟨w1.heap.size, 1, none⟩ = some (.slice ra rk rc) := by rw [← hwM]; exact d1
    rw [hwM] at HED
    have HWM := hide hwM
    clear hwM hbM hwm d0 d1 hsA
    go_wp2_with fail
    refine HED.out.mono ?_
    rintro e w3 ⟨u, rfl, hown, hb3⟩
    rw [← HWM.out] at hown hb3
    obtain ⟨ea, ec, rfl⟩ := own_slice hown
    obtain ⟨m, hmE⟩ : ∃ m, m = (Ld.edges p).length := ⟨_, rfl⟩
    have HME := hide hmE
    have HCE : Hid (∀ k, k < m → ∃ ga, ea = some ⟨ga, 0, none⟩ ∧ m ≤ ec ∧ ga ≠ w2.heap.size ∧ ∀ (j x : Nat), (Ld.edges p)[j]? = some x → w3.cell? ⟨ga, j, none⟩ = some (.int .i64 (x : Int))) := by
      intro k hk
      rcases hown.2 with ⟨_, h0⟩ | ⟨g, cap, cur, h1, hg, hcur, hcap, _, _, htk⟩
      · omega
      · simp only [Value.slice.injEq] at h1
        exact ⟨g, h1.1, by rw [h1.2.2, hmE]; exact hcap, by omega, fun j x hj => row_cell hcur htk (by rw [List.getElem?_map, hj]; rfl)⟩
    have HE3 := hide (HEM.out.kept (hb3.block w2.heap.size (by omega)))
    have HB3 := hide (HBM.out.trans (hb3.mono HBM.out.size))
    have HB23 := hide (HBM2.out.trans (hb3.mono HBM2.out.size))
    have hs3 : w2.heap.size < w3.heap.size := by have := hb3.size; omega
    have hm1 : m ≤ 12 := by rw [hmE]; exact Nat.le_trans (Ld.placesTo_le _ _ _) (Ld.check_names p HCK.out).1
    have HEL : Hid (∀ (j x : Nat), (Ld.edges p)[j]? = some x → x ≤ 100000) := by
      intro j x hj
      have := List.mem_of_getElem? hj
      unfold Ld.edges Ld.placesTo at this
      have := List.mem_range.1 (List.mem_filter.1 this).1
      have h2 := (Ld.check_names p HCK.out).1
      omega
    rw [← hmE]
    clear hmE hown hb3 HED HEM d0' d1'
    go_wp2_with fail
    go_loopw [10] (fun i wr => ∃ k : Nat, k ≤ m ∧ i = .int .i64 (k : Int) ∧ Hid (∃ D, EdgeMap wr w2.heap.size k D (fun x => ((Ld.edges p).take k).contains x)) ∧ Hid (w3.heap.size ≤ wr.heap.size ∧ ∀ b, b < w3.heap.size → b ≠ w2.heap.size → wr.heap[b]? = w3.heap[b]?) ∧ Hid (Below w2.heap.size w2 wr)) (fun i _ => m - (intOf i).toNat)
    case atStart => exact ⟨0, Nat.zero_le _, rfl, ⟨_, HE3.out⟩, ⟨Nat.le_refl _, fun _ _ _ => rfl⟩, HB23.out⟩
    case round =>
      obtain ⟨k, hk, rfl, HED, HOLD, HB⟩ := hrel
      by_cases hlt : k < m
      · obtain ⟨ga, rfl, hcap, hga, hcells⟩ := HCE.out k hlt
        have hkE : k < (Ld.edges p).length := by rw [← HME.out]; exact hlt
        have hxk := List.getElem?_eq_getElem hkE
        have c3 := hcells k _ hxk
        have hx5 := HEL.out k _ hxk
        have hg3 : ga < w3.heap.size := World.block_lt_of_cell? _ _ c3
        have c0 : wr.cell? ⟨ga, k, none⟩ = some (.int .i64 ((Ld.edges p)[k] : Int)) := (World.cell?_of_block (w' := wr) (w := w3) (HOLD.out.2 ga hg3 hga)).trans c3
        obtain ⟨D, hem⟩ := HED.out
        have HEMK := hide hem
        have HTK := hide (List.take_succ_eq_append_getElem hkE)
        generalize (Ld.edges p)[k] = x at *
        clear c3 hcells hxk
        go_wp2_with (first | (at_mapUpdate; refine wpList_mapUpdate_own _ rfl _ _ _ 83 rfl 3 4 lawI Tryz.underlying83 _ w2.heap.size k _ rfl HEMK.out.1 (by unfold maxLen; omega) _ _ _ rfl rfl (key_int x hx5) _ [] (plainElem_bool Tryz.underlying4 true) ?_; intro w4 hown4 hgrow4) | fail)
        have HE4 := hide (hem.put x hown4)
        go_roundw
        case rel =>
          refine ⟨k + 1, by omega, by go_num, ⟨D.put (.int .i64 (x : Int)) (.lit (.bool true)), ?_⟩, ⟨Nat.le_trans HOLD.out.1 hgrow4.size, fun b hb hne => ?_⟩, HB.out.grown hgrow4 HB.out.size (fun j hj => by cases hj; exact Nat.le_refl _)⟩
          · have e : (fun y => ((Ld.edges p).take (k + 1)).contains y) = (fun y => ((Ld.edges p).take k).contains y || y == x) := by
              funext y; rw [HTK.out]; simp only [List.contains_append, List.contains_cons, List.contains_nil, Bool.or_false]
            rw [e]; exact HE4.out
          · exact (hgrow4.block b (Nat.lt_of_lt_of_le hb HOLD.out.1) (by intro e; cases e; exact hne rfl)).trans (HOLD.out.2 b hb hne)
        case measure => simp [intOf]; omega
      · have hkm : k = m := by omega
        subst hkm
        obtain ⟨D, hem⟩ := HED.out
        rw [List.take_of_length_le (by rw [← HME.out]; exact Nat.le_refl _)] at hem
        obtain ⟨wo, rfl⟩ : ∃ wo, wo = wr := ⟨_, rfl⟩
        have hw2o : w2.heap.size < wo.heap.size := hem.lt
        have HEMO := hide hem
        have HBO : Hid (Below wA.heap.size wA wo) := HB2.out.trans (HB.out.mono HB2.out.size)
        clear hem HED
        go_wp2_with fail
        go_loopw [8, 12] (fun c i wr => ∃ j : Nat, j ≤ n ∧ i = .int .i64 (j : Int) ∧ c = .int .i64 (Mc.total ((Mc.parts p).take j) : Int) ∧ Mc.total ((Mc.parts p).take j) ≤ 3200 ∧ Hid (Below wo.heap.size wo wr)) (fun _ i _ => n - (intOf i).toNat)
        case atStart => exact ⟨0, Nat.zero_le _, rfl, rfl, by simp [Mc.total], Below.refl _ _⟩
        case round =>
          obtain ⟨j, hj, rfl, rfl, h32, HBJ⟩ := hrel
          have hbJ : Below wA.heap.size wA wr := HBO.out.trans (HBJ.out.mono HBO.out.size)
          obtain ⟨d0, d1, hwJ⟩ := HX.out wr hbJ
          have hw1r : w1.heap.size < wr.heap.size := World.block_lt_of_cell? _ _ d0
          by_cases hbig : most < Mc.total ((Mc.parts p).take j)
          · have hbi : ¬ ((Mc.total ((Mc.parts p).take j) : Int) ≤ (most : Int)) := by omega
            have hbi2 : (most : Int) < (Mc.total ((Mc.parts p).take j) : Int) := by omega
            have HNO : Hid (¬ Mc.total (Mc.parts p) ≤ most) := by
              have := Mc.total_le (Mc.parts p) (Mc.parts_ok p) j
              show ¬ _; omega
            have HBW := hide (HB1.out.trans (hwJ.mono HB1.out.size))
            clear hbJ hwJ
            generalize Mc.total ((Mc.parts p).take j) = c at *
            go_wp2_with fail
            all_goals
              refine bodyPost_ret (results_tmp2 rfl _ _ _) rfl ?_
              rw [HMP.out]
              exact ⟨HBW.out, by simp only [fewP]; rw [if_neg (fun h => HNO.out h.2)]; rfl⟩
          have hbi : (Mc.total ((Mc.parts p).take j) : Int) ≤ (most : Int) := by omega
          by_cases hlt : j < n
          · have hjl : j < p.names.length := by rw [← HN.out]; exact hlt
            have hyj := List.getElem?_eq_getElem hjl
            obtain ⟨gn, hna, hcn, y1, y2, y3, y4, y5, y6⟩ : ∃ g, na = some ⟨g, 0, none⟩ ∧ n ≤ nc ∧ NameAt wr g j p.names[j] := by
              rcases HNA.out.below hwJ with ⟨h0, _⟩ | ⟨g, cap, h1, h2, h3, h4⟩
              · rw [h0] at hjl; simp at hjl
              · simp only [Value.slice.injEq] at h1
                exact ⟨g, h1.1, by rw [h1.2.2, h1.2.1]; exact h2, h4 j _ hyj⟩
            subst hna
            obtain ⟨m1, m4, m3, m2⟩ := Sc.may p HCK.out j hjl
            have HTS := hide (total_succ p j hjl)
            have HPO := hide (part_of p j _ hyj m1 m4)
            have hgn : gn < wr.heap.size := World.block_lt_of_cell? _ _ y1
            have HBN : Hid (∀ o, Below wo.heap.size wo (wr.alloc o)) := fun o => HBJ.out.alloc HBJ.out.size o
            have HEMR : Hid (∀ o, EdgeMap (wr.alloc o) w2.heap.size k D (fun x => (Ld.edges p).contains x)) := fun o => HEMO.out.kept ((HBN.out o).block _ hw2o)
            generalize p.names[j] = y at *
            obtain ⟨ynm, yk, yc⟩ := y
            simp only at y1 y2 y3 y4 y5 y6 m1 m2 m3 m4 HPO
            have lk := fun o => (HEMR.out o).look j (by omega)
            obtain ⟨eb, heb⟩ : ∃ eb, eb = (Ld.edges p).contains j := ⟨_, rfl⟩
            rw [← heb] at HPO
            simp only [← heb] at lk
            obtain ⟨c, hc⟩ : ∃ c, c = Mc.total ((Mc.parts p).take j) := ⟨_, rfl⟩
            rw [← hc] at HTS hbi hbig h32 ⊢
            have hc4 : c ≤ 400 := by omega
            clear hbJ hwJ hyj heb hc
            rcases (show yk = 1 ∨ yk = 2 ∨ 3 ≤ yk by omega) with e | e | e
            · subst e
              have HP1 := HPO.out
              rw [if_neg (by decide), if_neg (by decide)] at HP1
              cases eb with
              | true =>
                have HT2 : Hid (Mc.total ((Mc.parts p).take (j + 1)) = c * 2) := by have := HTS.out; rw [HP1] at this; exact this
                clear HP1
                go_wp2_with fail
                exact ⟨⟨j + 1, by omega, by go_num, by rw [HT2.out]; go_num, by rw [HT2.out]; omega, HBN.out _⟩, by simp [intOf]; omega⟩
              | false =>
                have HT2 : Hid (Mc.total ((Mc.parts p).take (j + 1)) = c) := by show _ = _; have := HTS.out; rw [HP1] at this; simpa using this
                clear HP1
                go_wp2_with fail
                exact ⟨⟨j + 1, by omega, by go_num, by rw [HT2.out], by rw [HT2.out]; omega, HBN.out _⟩, by simp [intOf]; omega⟩
            · subst e
              have HP1 := HPO.out
              rw [if_neg (by decide), if_pos rfl] at HP1
              have HT2 : Hid (Mc.total ((Mc.parts p).take (j + 1)) = c * 2) := by have := HTS.out; rw [HP1] at this; exact this
              clear HP1 lk
              go_wp2_with fail
              exact ⟨⟨j + 1, by omega, by go_num, by rw [HT2.out]; go_num, by rw [HT2.out]; omega, HBN.out _⟩, by simp [intOf]; omega⟩
            · have HP1 := HPO.out
              rw [if_pos e] at HP1
              obtain ⟨m5, m6⟩ := m3 e
              obtain ⟨t, ht⟩ : ∃ t, t = c * (yc.toNat + 1) := ⟨_, rfl⟩
              have HT2 : Hid (Mc.total ((Mc.parts p).take (j + 1)) = t) := by have := HTS.out; rw [HP1, ← ht] at this; exact this
              have htb : t ≤ 3200 := by
                have h8 : yc.toNat + 1 ≤ 8 := by omega
                have := Nat.mul_le_mul hc4 h8
                omega
              have hti : (c : Int) * (yc + 1) = (t : Int) := by
                rw [ht, Int.natCast_mul]
                have : ((yc.toNat + 1 : Nat) : Int) = yc + 1 := by omega
                rw [this]
              have e1 : ¬ yk = 1 := by omega
              have e2 : ¬ yk = 2 := by omega
              clear HP1 lk ht
              go_wp2_with fail
              exact ⟨⟨j + 1, by omega, by go_num, by rw [HT2.out], by rw [HT2.out]; omega, HBN.out _⟩, by simp [intOf]; omega⟩
          · have hjn : j = n := by omega
            subst hjn
            have eT : (Mc.parts p).take j = Mc.parts p := List.take_of_length_le (by rw [Mc.parts_len, ← HN.out]; exact Nat.le_refl _)
            rw [eT] at hbi hbig h32 ⊢
            have HOF := hide (Of_any p _ wr (HPR.out.below hwJ) HCK.out)
            have HBW := hide (HB1.out.trans (hwJ.mono HB1.out.size))
            have HMP2 : Hid (madeP s most = some p) := by
              have := HMP.out
              simp only [fewP] at this
              rw [if_pos ⟨by rw [← HQ.out]; omega, by omega⟩] at this
              exact this
            have HIF : Hid ((Ld.kindL p.names 1).length ≤ 6 ∧ Mc.total (Mc.parts p) ≤ 4096) := ⟨by rw [← HQ.out]; omega, by omega⟩
            have pq := fun w a => ptrNeq w a
            clear hbJ hwJ eT
            have hbi3 : ¬ ((most : Int) < (Mc.total (Mc.parts p) : Int)) := by omega
            generalize hcT : Mc.total (Mc.parts p) = c at hbi hbig h32 hbi3 ⊢
            have HCT := hide hcT
            clear hcT
            go_wp2_with fail
            refine HOF.out.mono ?_
            rintro e w5 ⟨hb5, hres⟩
            rw [if_pos HIF.out] at hres
            obtain ⟨bm, rfl, hbm, hmach⟩ := hres
            have HB5 := hide (HBW.out.trans (hb5.mono HBW.out.size))
            have HMA := hide hmach
            have hz := HBW.out.size
            clear hb5 hmach HOF
            go_wp2_with fail
            refine bodyPost_ret (results_tmp2 rfl _ _ _) rfl ?_
            rw [HMP2.out]
            exact ⟨HB5.out, bm, rfl, by omega, HMA.out, HCK.out⟩
end
section
theorem lit_q : (Ld.kindL Ld.lit.names 1).length = 1 := by decide
theorem lit_inputs : Ld.kindL Ld.lit.names 1 = [0] := by kernel_rfl
theorem lit_asked : Ld.asked Ld.lit = [] := by
  have h : Ld.litA.named false = [] := by simp [Ld.litA, Ex.named]
  show (([⟨2, [109], some Ld.litA⟩] : List Ld.Rng).map Ld.asksR).flatten = []
  simp [Ld.asksR, h]
theorem lit_edges : Ld.edges Ld.lit = [] := by
  unfold Ld.edges
  rw [lit_asked]
  rfl
theorem lit_parts : Mc.parts Ld.lit = [(1, false), (2, false)] := by
  have h0 : Mc.part Ld.lit 0 = (1, false) := by
    unfold Mc.part
    rw [lit_edges]
    rfl
  have h1 : Mc.part Ld.lit 1 = (2, false) := by
    unfold Mc.part
    rw [lit_edges]
    rfl
  show [Mc.part Ld.lit 0, Mc.part Ld.lit 1] = _
  rw [h0, h1]
theorem lit_total : Mc.total (Mc.parts Ld.lit) = 2 := by rw [lit_parts]; rfl
theorem lit_num0 : Ld.number Ld.lit.names [97] = 0 := by kernel_rfl
theorem lit_num1 : Ld.number Ld.lit.names [109] = 1 := by kernel_rfl
theorem lit_eval (i w : List UInt8 → Bool) : Ld.litA.eval i w = i [97] := by simp [Ld.litA, Ex.eval]
theorem lit_step (x y b : Bool) (c d : Int) : Sc.step Ld.lit ⟨[x, y], [c, d]⟩ [b] = ⟨[b, b || y], [c, d]⟩ := by
  have ht : Sc.told Ld.lit.names [b, y] [97] = b := by
    unfold Sc.told
    rw [lit_num0]
    simp
  unfold Sc.step
  rw [lit_inputs]
  show Sc.doRung Ld.lit.names [x, y] ⟨[b, y], [c, d]⟩ ⟨2, [109], some Ld.litA⟩ = _
  unfold Sc.doRung
  simp only [lit_num1, lit_eval, ht]
  cases b <;> cases y <;> rfl
theorem lit_after (s i : Nat) (y b : Bool) (hs : Mc.state [(1, false), (2, false)] s = ⟨[false, y], [0, 0]⟩) (hi : bitsTo i 1 = [b]) : Mc.number [(1, false), (2, false)] (Mc.after1 Ld.lit 1 s i).is (Mc.after1 Ld.lit 1 s i).ct = if b || y then 1 else 0 := by
  unfold Mc.after1
  rw [lit_parts, hs, hi, lit_step]
  cases b <;> cases y <;> rfl
theorem lit_next0 : Mc.nextRow Ld.lit 1 2 0 = [.int .i64 0, .int .i64 1] := by
  have h0 := lit_after 0 0 false false rfl (by kernel_rfl)
  have h1 := lit_after 0 1 false true rfl (by kernel_rfl)
  show [Value.int .i64 (Mc.number (Mc.parts Ld.lit) (Mc.after1 Ld.lit 1 0 0).is (Mc.after1 Ld.lit 1 0 0).ct : Int), Value.int .i64 (Mc.number (Mc.parts Ld.lit) (Mc.after1 Ld.lit 1 0 1).is (Mc.after1 Ld.lit 1 0 1).ct : Int)] = _
  rw [lit_parts, h0, h1]
  rfl
theorem lit_next1 : Mc.nextRow Ld.lit 1 2 1 = [.int .i64 1, .int .i64 1] := by
  have h0 := lit_after 1 0 true false rfl (by kernel_rfl)
  have h1 := lit_after 1 1 true true rfl (by kernel_rfl)
  show [Value.int .i64 (Mc.number (Mc.parts Ld.lit) (Mc.after1 Ld.lit 1 1 0).is (Mc.after1 Ld.lit 1 1 0).ct : Int), Value.int .i64 (Mc.number (Mc.parts Ld.lit) (Mc.after1 Ld.lit 1 1 1).is (Mc.after1 Ld.lit 1 1 1).ct : Int)] = _
  rw [lit_parts, h0, h1]
  rfl
end
section
open Go.RowKit
theorem i64_small (x : Int) (h : 0 ≤ x ∧ x ≤ 1000) : I64 x := ⟨by omega, by omega⟩
theorem lit_made (most : Nat) (h : 2 ≤ most) : madeP ⟨#[105, 110, 112, 117, 116, 32, 97, 10, 99, 111, 105, 108, 32, 109, 10, 115, 101, 116, 32, 109, 32, 61, 32, 97, 10]⟩ most = some Ld.lit := by
  have hr : readP ⟨#[105, 110, 112, 117, 116, 32, 97, 10, 99, 111, 105, 108, 32, 109, 10, 115, 101, 116, 32, 109, 32, 61, 32, 97, 10]⟩ = some Ld.lit := by
    rw [readP, if_neg (by decide)]
    show prgOf (Ld.parse [105, 110, 112, 117, 116, 32, 97, 10, 99, 111, 105, 108, 32, 109, 10, 115, 101, 116, 32, 109, 32, 61, 32, 97, 10]) = _
    rw [Ld.lit_parse]; rfl
  rw [madeP, hr, fewP]
  rw [if_pos ⟨by rw [lit_q]; decide, by rw [lit_total]; exact h⟩]
/-- the latch's machine in memory -/
def IsLatch (W : World) (bm : Nat) : Prop := IsMach W bm Ld.lit ∧ (W.cell? ⟨bm, 2, none⟩ = some (.int .i64 2) ∧ W.cell? ⟨bm, 3, none⟩ = some (.int .i64 2)) ∧ ∃ gN b0 b1, W.cell? ⟨bm, 4, none⟩ = some (.slice (some ⟨gN, 0, none⟩) 2 2) ∧ (W.cell? ⟨gN, 0, none⟩ = some (.slice (some ⟨b0, 0, none⟩) 2 2) ∧ W.cell? ⟨gN, 1, none⟩ = some (.slice (some ⟨b1, 0, none⟩) 2 2)) ∧ RowIs W b0 3 [.int .i64 0, .int .i64 1] ∧ RowIs W b1 3 [.int .i64 1, .int .i64 1]
theorem latch_of {W : World} {bm : Nat} (h : IsMach W bm Ld.lit) : IsLatch W bm := by
  have hm := h
  obtain ⟨nv, rv, g, gN, gS, lo, uN, uS, h1, ⟨⟨h2, _⟩, h3, _⟩, _⟩ := h
  rw [lit_q, lit_total] at h1 h3
  rw [lit_total] at h2
  obtain ⟨_, ⟨c2, c3⟩, c4, _⟩ := h1.cells
  obtain ⟨b0, e0⟩ : ∃ b, uN[0]? = some b := ⟨_, List.getElem?_eq_getElem (by omega)⟩
  obtain ⟨b1, e1⟩ : ∃ b, uN[1]? = some b := ⟨_, List.getElem?_eq_getElem (by omega)⟩
  have r0 := (h3.row 0 b0 e0).1
  have r1 := (h3.row 1 b1 e1).1
  rw [show (2 ^ 1 : Nat) = 2 from rfl] at r0 r1
  rw [lit_next0] at r0
  rw [lit_next1] at r1
  exact ⟨hm, ⟨c2, c3⟩, gN, b0, b1, c4, ⟨h3.cell 0 b0 e0, h3.cell 1 b1 e1⟩, r0, r1⟩
theorem ints_two {W : World} {b : Nat} {x y : Int} (h : RowIs W b 3 [.int .i64 x, .int .i64 y]) (hx : I64 x) (hy : I64 y) : Ints W (.slice (some ⟨b, 0, none⟩) 2 2) [x, y] :=
  ints_row (l := [x, y]) h (fun z hz => by
    simp only [List.mem_cons, List.not_mem_nil, or_false] at hz
    rcases hz with rfl | rfl
    · exact hx
    · exact hy)
set_option maxHeartbeats 4000000 in
set_option maxRecDepth 100000 in
theorem machined_any (w : World) (hL : Laid w) : Calls Tryz.prog 9 #[] w fun e w' => e = .returned (.bool true) ∧ Below w.heap.size w w' := by
  have HM := hide (kmade_any ⟨#[105, 110, 112, 117, 116, 32, 97, 10, 99, 111, 105, 108, 32, 109, 10, 115, 101, 116, 32, 109, 32, 61, 32, 97, 10]⟩ 9 w (by decide) hL (by omega))
  rw [lit_made 9 (by omega)] at HM
  clear hL
  go_enter Tryz.func9, Tryz.ntmps9
  go_wp2_with fail
  refine HM.out.mono ?_
  rintro e w1 ⟨hb1, bm, rfl, hbm, hmach, _⟩
  obtain ⟨_, ⟨c2, c3⟩, gN, b0, b1, c4, ⟨d0, d1⟩, hr0, hr1⟩ := latch_of hmach
  have HB1 := hide hb1
  have HR1 := hide hr1
  have hbl := hmach.lt
  obtain ⟨w2, hw2⟩ : ∃ w2, w2 = w1.alloc (.cells #[.int .i64 0, .int .i64 1] 3) := ⟨_, rfl⟩
  have hb2 : Below w1.heap.size w1 w2 := by rw [hw2]; exact (Below.refl _ _).alloc (Nat.le_refl _) _
  have HS1 := hide (sameI_any [0, 1] _ _ w2 (ints_two (hr0.below hb2) (i64_small _ (by decide)) (i64_small _ (by decide))) (ints_two (b := w1.heap.size) (by rw [hw2]; exact RowIs.new w1 3 [.int .i64 0, .int .i64 1]) (i64_small _ (by decide)) (i64_small _ (by decide))) (by decide))
  have HW2 := hide hw2
  have HB2 := hide hb2
  rw [hw2] at HS1
  clear hw2 hb2 hb1 hmach hr0 hr1 HM
  go_wp2_with fail
  refine HS1.out.mono ?_
  rintro e w3 ⟨rfl, hb3⟩
  rw [← HW2.out] at hb3
  have hb13 : Below w1.heap.size w1 w3 := HB2.out.trans (hb3.mono HB2.out.size)
  have key : ∀ (p : Addr) v, w1.cell? p = some v → w3.cell? p = some v := fun p v hv => (hb13.cell (World.block_lt_of_cell? _ _ hv)).trans hv
  have k4 := key _ _ c4
  have k1 := key _ _ d1
  have HB3 := hide (HB1.out.trans (hb13.mono HB1.out.size))
  obtain ⟨w4, hw4⟩ : ∃ w4, w4 = w3.alloc (.cells #[.int .i64 1, .int .i64 1] 3) := ⟨_, rfl⟩
  have hb4 : Below w3.heap.size w3 w4 := by rw [hw4]; exact (Below.refl _ _).alloc (Nat.le_refl _) _
  have HS2 := hide (sameI_any [1, 1] _ _ w4 (ints_two ((HR1.out.below hb13).below hb4) (i64_small _ (by decide)) (i64_small _ (by decide))) (ints_two (b := w3.heap.size) (by rw [hw4]; exact RowIs.new w3 3 [.int .i64 1, .int .i64 1]) (i64_small _ (by decide)) (i64_small _ (by decide))) (by decide))
  have HB4 := hide (HB3.out.trans (hb4.mono HB3.out.size))
  rw [hw4] at HS2 HB4
  clear hb3 hb13 key c4 d0 d1 c2 c3 hw4 hb4 HS1
  go_wp2_with fail
  refine HS2.out.mono ?_
  rintro e w5 ⟨rfl, hb5⟩
  have HB5 := hide (HB4.out.trans (hb5.mono HB4.out.size))
  clear hb5 HS2
  go_wp2_with fail
  go_ret
  exact ⟨rfl, HB5.out⟩
end
section
open Go.RowKit
theorem IsMach.next {W : World} {bm : Nat} {p : Ld.Prg} (h : IsMach W bm p) : ∃ gN uN, NextAt W bm (Mc.total (Mc.parts p)) (2 ^ (Ld.kindL p.names 1).length) (Mc.nexts p) gN uN := by
  obtain ⟨nv, rv, g, gN, gS, lo, uN, uS, h1, ⟨⟨h2, _⟩, h3, _⟩, _⟩ := h
  refine ⟨gN, uN, h1.cells.2.2.1, h2, fun s b hs => ⟨h3.cell s b hs, fun i x hx => ?_⟩⟩
  have hr := (h3.row s b hs).1
  rw [Mc.nexts_row] at hr
  exact hr.cell i _ (by rw [List.getElem?_map, hx]; rfl)
end
end Go.Proofs.YtdmnikbhkpcdpaaGreatDoor
