/-
  The walk of the closure that adds a name: it is marked, and then all on which it hangs. The walk of package slice's neededBy: marks of all that some names hang on. The walk of package slice's neededBy where one of the names is none of the program's.
-/
import Derived.Test.YtjfgfcajmkbmeaaGreatDoorSlAddAll
import Derived.Test.YtjfgfcajmkbmeaaGreatDoorRtBoundAll
namespace Go.Proofs.YtjfgfcajmkbmeaaGreatDoor
section
open Go.RowKit
namespace Sl
set_option maxHeartbeats 4000000 in
set_option maxRecDepth 100000 in
theorem add_one (w0 : World) (B b2 b3 gm n : Nat) (nv rv : Value) (p : Ld.Prg) (hP : IsPrg w0 p (.agg #[nv, rv])) (hn : n = p.names.length)
    (m : List Bool) (nm : List UInt8) (w : World) (hE : Env w0 B b2 b3 gm n nv rv m w) (hkn : 0 ≤ Ld.number p.names nm)
    (heach : Sc.told p.names m nm = false → ∀ w', Env w0 B b2 b3 gm n nv rv (m.set (Ld.number p.names nm).toNat true) w' → Calls Tryz.prog 45 #[.agg #[nv, rv], .string ⟨nm.toArray⟩, addV B b2 b3] w' (Eached w0 B b2 b3 gm n nv rv p nm (m.set (Ld.number p.names nm).toNat true) w')) :
    Calls Tryz.prog 44 #[.string ⟨nm.toArray⟩, .pointer (some ⟨B, 0, none⟩), .pointer (some ⟨b2, 0, none⟩), .pointer (some ⟨b3, 0, none⟩)] w (Added w0 B b2 b3 gm n nv rv p nm m w) := by
  obtain ⟨nv', rv', e0, hna, hra⟩ := hP
  simp only [Value.agg.injEq, Array.mk.injEq, List.cons.injEq, and_true] at e0
  obtain ⟨rfl, rfl⟩ := e0
  have HNA := hide hna
  obtain ⟨na, nc, rfl, _⟩ := hna.slice
  obtain ⟨ra, rc, rfl, _⟩ := hra.slice
  have HNU := hide (Number_any p.names _ (.slice ra p.rungs.length rc) nm w (HNA.out.below hE.low) ⟨_, _, _, rfl⟩)
  have hnl := Ld.number_lt p.names nm
  have HTL : Hid (Sc.told p.names m nm = m.getD (Ld.number p.names nm).toNat false) := Rf.told_at _ _ _ hkn
  obtain ⟨i, hi⟩ : ∃ i : Nat, Ld.number p.names nm = (i : Int) := ⟨(Ld.number p.names nm).toNat, by omega⟩
  have HI := hide hi
  have HEA := hide heach
  have HE := hide hE
  have HN := hide hn
  have HLN := hide hE.len
  rw [hi, Int.toNat_natCast] at HTL HEA
  rw [hi] at hnl HNU
  have hil : i < n := by omega
  have p0 : w.cell? ⟨B, 0, none⟩ = some (.slice na p.names.length nc) := by rw [Lib.cell_of_heap hE.hp]; rfl
  have p1 : w.cell? ⟨B, 1, none⟩ = some (.slice ra p.rungs.length rc) := by rw [Lib.cell_of_heap hE.hp]; rfl
  clear hna hra heach hE hi hn hnl
  obtain ⟨q, hq⟩ : ∃ q, q = p.rungs.length := ⟨_, rfl⟩
  obtain ⟨nn, hnn⟩ : ∃ nn, nn = p.names.length := ⟨_, rfl⟩
  rw [← hq] at p1 HE HNU HEA ⊢
  rw [← hnn] at p0 HE HNU HEA HN ⊢
  clear hq
  have HG := hide hnn
  clear hnn
  go_enter Tryz.func44, Tryz.ntmps44
  go_wp2_with fail
  refine HNU.out.mono ?_
  rintro e w1 ⟨rfl, hb1⟩
  have HE1 := hide (HE.out.below hb1)
  have HT1 : Hid (Two gm gm w w1) := Two.below hb1
  have c2 : w1.cell? ⟨b2, 0, none⟩ = some (.slice (some ⟨gm, 0, none⟩) n n) := by rw [Lib.cell_of_heap HE1.out.hn]; rfl
  have c3 : w1.cell? ⟨b3, 0, none⟩ = some (addV B b2 b3) := by rw [Lib.cell_of_heap HE1.out.ha]; rfl
  have c4 : w1.cell? ⟨gm, i, none⟩ = some (.bool (m.getD i false)) := by
    rw [Lib.cell_of_heap HE1.out.hm]
    have : i < m.length := by rw [HLN.out]; exact hil
    simp [boolV, this]
  have f4 : w1.frozen? ⟨gm, i, none⟩ = false := Lib.frozen_of_heap HE1.out.hm i
  have c0 : w1.cell? ⟨B, 0, none⟩ = some (.slice na nn nc) := by rw [Lib.cell_of_heap HE1.out.hp]; rfl
  have c1 : w1.cell? ⟨B, 1, none⟩ = some (.slice ra q rc) := by rw [Lib.cell_of_heap HE1.out.hp]; rfl
  obtain ⟨d1, d2, d3⟩ := HE1.out.ne
  obtain ⟨l1, l2, l3, l4⟩ := HE1.out.lt
  clear hb1 HNU p0 p1
  cases hb : m.getD i false with
  | true =>
    rw [hb] at c4
    have HTT : Hid (Sc.told p.names m nm = true) := by show _ = _; rw [HTL.out, hb]
    go_wp2_with fail
    go_end0
    exact ⟨rfl, m, HE1.out, HT1.out, Grown.refl _ _ _, HTT.out⟩
  | false =>
    rw [hb] at c4
    have HTT : Hid (Sc.told p.names m nm = false) := by show _ = _; rw [HTL.out, hb]
    have HEC := hide (HEA.out HTT.out _ (HE1.out.mark i))
    unfold addV at c3 HEC
    go_wp2_with fail
    refine HEC.out.mono ?_
    rintro e w2 ⟨rfl, m', hE2, hT2, hG2, hA2⟩
    have HF : Hid (Added w0 B b2 b3 gm n (.slice na nn nc) (.slice ra q rc) p nm m w (.returned (.tuple #[])) w2) := by
      have h1 := mark_grown p m m' nm (by rw [HI.out]; omega) (by rw [HLN.out, HN.out, HG.out]) (by rw [HI.out, Int.toNat_natCast]; exact hG2) hA2
      exact ⟨rfl, m', hE2, HT1.out.trans ((Two.setI _ _ _).trans hT2), h1.1, h1.2⟩
    clear hE2 hT2 hG2 hA2
    go_wp2_with fail
    go_end0
    exact HF.out
theorem add_any (w0 : World) (B b2 b3 gm n : Nat) (nv rv : Value) (p : Ld.Prg) (hP : IsPrg w0 p (.agg #[nv, rv])) (hck : Ld.check p = none) (hn : n = p.names.length) : ∀ K, Adds w0 B b2 b3 gm n nv rv p K := by
  intro K
  induction K with
  | zero =>
    intro m nm w hE hK hkn
    refine add_one w0 B b2 b3 gm n nv rv p hP hn m nm w hE hkn fun ht => ?_
    have := left_mark p m nm hkn (hE.len.trans hn) ht
    omega
  | succ K ih =>
    intro m nm w hE hK hkn
    refine add_one w0 B b2 b3 gm n nv rv p hP hn m nm w hE hkn fun ht w' hE' => ?_
    have := left_mark p m nm hkn (hE.len.trans hn) ht
    exact each_any w0 B b2 b3 gm n nv rv p K hP hck ih _ nm w' hE' (by omega)
end Sl
end
section
open Go.RowKit
namespace Sl
/-- a row of names: where each lies -/
theorem strs_cells {w : World} {sv : Value} {os : List (List UInt8)} (h : Strs w sv (os.map toBA)) : ∃ sa sc, sv = .slice sa os.length sc ∧ os.length ≤ 1000000 ∧ ∀ j (hj : j < os.length), ∃ gs o, sa = some ⟨gs, o, none⟩ ∧ os.length ≤ sc ∧ w.cell? ⟨gs, o + j, none⟩ = some (.string ⟨os[j].toArray⟩) := by
  rcases h with ⟨h0, a, cap, rfl⟩ | ⟨gs, o, cap, rfl, h1, h2, h3⟩
  · have h4 : os = [] := by simpa using h0
    subst h4
    exact ⟨a, cap, rfl, by simp, fun j hj => by simp at hj⟩
  · rw [List.length_map] at h1 h2 ⊢
    exact ⟨_, cap, rfl, h2, fun j hj => ⟨gs, o, rfl, h1, h3 j (toBA os[j]) (by rw [List.getElem?_map, List.getElem?_eq_getElem hj]; rfl)⟩⟩
set_option maxHeartbeats 4000000 in
set_option maxRecDepth 100000 in
theorem needed_any (p : Ld.Prg) (v sv : Value) (names : List (List UInt8)) (w : World) (h : IsPrg w p v) (hck : Ld.check p = none) (hs : Strs w sv (names.map toBA)) (hkn : ∀ s, s ∈ names → 0 ≤ Ld.number p.names s) :
    Calls Tryz.prog 19 #[v, sv] w fun e w' => ∃ m gm, e = .returned (.tuple #[.slice (some ⟨gm, 0, none⟩) p.names.length p.names.length, .nilIface]) ∧ Needed p names m ∧ w'.heap[gm]? = some (.cells ⟨m.map boolV⟩ 4 (0, 0)) ∧ Below w.heap.size w w' := by
  have hmf : ∀ (fn : Fn) (first cap : Array Value) (w : World), (Instr.makeFunc fn first cap).run Tryz.prog w = .ok (.func fn first cap) w := fun _ _ _ _ => rfl
  have HPR := hide h
  have HCK := hide hck
  have h12 := (Ld.check_names p hck).1
  obtain ⟨nv, rv, rfl, hn, hr⟩ := h
  obtain ⟨na, nc, rfl, _⟩ := hn.slice
  obtain ⟨ra, rc, rfl, _⟩ := hr.slice
  obtain ⟨sa, sc, rfl, hsl, hcs⟩ := strs_cells hs
  have HCS := hide hcs
  have HKN := hide hkn
  obtain ⟨n, hnn⟩ : ∃ n, n = p.names.length := ⟨_, rfl⟩
  obtain ⟨q, hqq⟩ : ∃ q, q = p.rungs.length := ⟨_, rfl⟩
  obtain ⟨u, huu⟩ : ∃ u, u = names.length := ⟨_, rfl⟩
  have HN := hide hnn
  have HU := hide huu
  rw [← hnn] at HPR h12 ⊢
  rw [← hqq] at HPR ⊢
  rw [← huu] at hsl ⊢
  clear hn hr hnn hqq huu hck hcs hs hkn
  obtain ⟨wA, hwA⟩ : ∃ wA, wA = w.alloc (.cells #[.slice na n nc, .slice ra q rc] 26) := ⟨_, rfl⟩
  have hbA : Below w.heap.size w wA := by rw [hwA]; exact (Below.refl _ _).alloc (Nat.le_refl _) _
  have hsA : wA.heap.size = w.heap.size + 1 := by rw [hwA]; simp
  have hA : wA.heap[w.heap.size]? = some (.cells #[.slice na n nc, .slice ra q rc] 26 (0, 0)) := by rw [hwA]; exact heap_alloc_new _ _
  have HKC := hide (Check_any p _ wA (HPR.out.below hbA))
  rw [HCK.out, hwA] at HKC
  have HWA := hide hwA
  have HBA := hide hbA
  have HA := hide hA
  clear hwA hbA hA
  go_enter Tryz.func19, Tryz.ntmps19
  go_wp2_with fail
  refine HKC.out.mono ?_
  rintro e w1 ⟨er, rfl, her, hb1⟩
  obtain rfl : er = .nilIface := her
  rw [← HWA.out] at hb1
  have HB1 := hide hb1
  have hz1 := hb1.size
  have h1p := (hb1.block w.heap.size (by omega)).trans HA.out
  have H1P := hide h1p
  have c0 : w1.cell? ⟨w.heap.size, 0, none⟩ = some (.slice na n nc) := by rw [Lib.cell_of_heap h1p]; rfl
  have c1 : w1.cell? ⟨w.heap.size, 1, none⟩ = some (.slice ra q rc) := by rw [Lib.cell_of_heap h1p]; rfl
  obtain ⟨cb, hcb⟩ : ∃ cb : Array Value, cb = ⟨(List.replicate n false).map boolV⟩ := ⟨_, rfl⟩
  have m1 := fun w => makeB w n h12
  rw [← hcb] at m1
  have HCB := hide hcb
  clear hcb
  have hst : (store ⟨w1.heap.size + 1 + 1, 0, none⟩ (addV w.heap.size (w1.heap.size + 1) (w1.heap.size + 1 + 1))).run Tryz.prog (((w1.alloc (.cells cb 4)).alloc (.cells #[.slice (some ⟨w1.heap.size, 0, none⟩) n n] 59)).alloc (.cells #[.nilFunc] 106)) = .ok () (((w1.alloc (.cells cb 4)).alloc (.cells #[.slice (some ⟨w1.heap.size, 0, none⟩) n n] 59)).alloc (.cells #[addV w.heap.size (w1.heap.size + 1) (w1.heap.size + 1 + 1)] 106)) := by
    rw [run_store _ _ _ _ _ rfl]
    simp [go_sem]
  unfold addV at hst
  clear hb1 HKC h1p
  obtain ⟨wE, hwE⟩ : ∃ wE, wE = ((w1.alloc (.cells cb 4)).alloc (.cells #[.slice (some ⟨w1.heap.size, 0, none⟩) n n] 59)).alloc (.cells #[addV w.heap.size (w1.heap.size + 1) (w1.heap.size + 1 + 1)] 106) := ⟨_, rfl⟩
  have HEE : Hid (Env w w.heap.size (w1.heap.size + 1) (w1.heap.size + 1 + 1) w1.heap.size n (.slice na n nc) (.slice ra q rc) (List.replicate n false) wE) := by
    have hbE : Below w1.heap.size w1 wE := by rw [hwE]; exact (((Below.refl _ _).alloc (Nat.le_refl _) _).alloc (by simp) _).alloc (by simp; omega) _
    refine ⟨HBA.out.trans ((HB1.out.trans (hbE.mono HB1.out.size)).mono HBA.out.size), (hbE.block _ (by omega)).trans H1P.out, ?_, ?_, ?_, by omega, by simp⟩
    · rw [hwE]
      exact (Below.heap_alloc _ _ _ (by simp)).trans (by have := heap_alloc_new (w1.alloc (.cells cb 4)) (.cells #[.slice (some ⟨w1.heap.size, 0, none⟩) n n] 59); rw [World.size_alloc] at this; exact this)
    · rw [hwE]
      have := heap_alloc_new ((w1.alloc (.cells cb 4)).alloc (.cells #[.slice (some ⟨w1.heap.size, 0, none⟩) n n] 59)) (.cells #[addV w.heap.size (w1.heap.size + 1) (w1.heap.size + 1 + 1)] 106)
      rw [World.size_alloc, World.size_alloc] at this
      exact this
    · rw [hwE, ← HCB.out]
      exact (Below.heap_alloc _ _ _ (by simp; omega)).trans ((Below.heap_alloc _ _ _ (by simp)).trans (heap_alloc_new w1 (.cells cb 4)))
  have HWE := hide hwE
  unfold addV at hwE
  go_wp2_with fail
  rw [← hwE]
  clear hwE hst m1 c0 c1
  generalize w1.heap.size = gm at *
  generalize hB : w.heap.size = B at *
  have HB := hide hB
  clear hB
  go_loopw [23] (fun i wr => ∃ k : Nat, k ≤ u ∧ i = .int .i64 (k : Int) ∧ ∃ mk : List Bool, Hid (Env w B (gm + 1) (gm + 1 + 1) gm n (.slice na n nc) (.slice ra q rc) mk wr) ∧ Hid (Grown p names (List.replicate n false) mk) ∧ Hid (∀ s, s ∈ names.take k → Sc.told p.names mk s = true)) (fun i _ => u - (intOf i).toNat)
  case atStart => exact ⟨0, Nat.zero_le _, rfl, _, HEE.out, Grown.refl _ _ _, fun s hs => by simp at hs⟩
  case round =>
    obtain ⟨k, hk, rfl, mk, HEk, HGk, HAk⟩ := hrel
    have hlow := HEk.out.low
    have HLO := hide hlow
    obtain ⟨l1, l2, l3, l4⟩ := HEk.out.lt
    by_cases hlt : k < u
    · have hkl : k < names.length := by rw [← HU.out]; exact hlt
      obtain ⟨gs, o, rfl, hsc, hcj⟩ := HCS.out k hkl
      have hcr : wr.cell? ⟨gs, o + k, none⟩ = some (.string ⟨names[k].toArray⟩) := (hlow.cell (World.block_lt_of_cell? _ _ hcj)).trans hcj
      have hkn : 0 ≤ Ld.number p.names names[k] := HKN.out _ (List.getElem_mem hkl)
      have HRC : Hid (Rch p names names[k]) := .base (List.getElem_mem hkl)
      have HTK : Hid (names.take (k + 1) = names.take k ++ [names[k]]) := List.take_succ_eq_append_getElem hkl
      have c0 : wr.cell? ⟨B, 0, none⟩ = some (.slice na n nc) := by rw [Lib.cell_of_heap HEk.out.hp]; rfl
      have c1 : wr.cell? ⟨B, 1, none⟩ = some (.slice ra q rc) := by rw [Lib.cell_of_heap HEk.out.hp]; rfl
      obtain ⟨nv', rv', e0, hna, hra⟩ := HPR.out.below hlow
      simp only [Value.agg.injEq, Array.mk.injEq, List.cons.injEq, and_true] at e0
      obtain ⟨rfl, rfl⟩ := e0
      have HNU := hide (Number_any p.names _ (.slice ra q rc) names[k] wr hna ⟨_, _, _, rfl⟩)
      rw [← HU.out] at hsc
      have HAD : Hid (∀ W, Env w B (gm + 1) (gm + 1 + 1) gm n (.slice na n nc) (.slice ra q rc) mk W → Calls Tryz.prog 44 #[.string ⟨names[k].toArray⟩, .pointer (some ⟨B, 0, none⟩), .pointer (some ⟨gm + 1, 0, none⟩), .pointer (some ⟨gm + 1 + 1, 0, none⟩)] W (Added w B (gm + 1) (gm + 1 + 1) gm n (.slice na n nc) (.slice ra q rc) p names[k] mk W)) := fun W hW =>
        add_any w B (gm + 1) (gm + 1 + 1) gm n _ _ p HPR.out HCK.out HN.out _ mk names[k] W hW (Nat.le_refl _) hkn
      generalize names[k] = s at *
      generalize Ld.number p.names s = num at *
      clear hcj hna hra hlow
      go_wp2_with fail
      refine HNU.out.mono ?_
      rintro e w2 ⟨rfl, hb2⟩
      have HE2 := hide (HEk.out.below hb2)
      have c3 : w2.cell? ⟨gm + 1 + 1, 0, none⟩ = some (addV B (gm + 1) (gm + 1 + 1)) := by rw [Lib.cell_of_heap HE2.out.ha]; rfl
      unfold addV at c3
      obtain ⟨t1, t2, t3, t4⟩ := HE2.out.lt
      have HCA := hide (HAD.out w2 HE2.out)
      clear hb2 HNU HAD
      go_wp2_with fail
      refine HCA.out.mono ?_
      rintro e w3 ⟨rfl, m3, hE3, hT3, hG3, hA3⟩
      have HE3 := hide hE3
      have HG3 := hide hG3
      have HA3 := hide hA3
      clear hE3 hT3 hG3 hA3 HCA
      go_wp2_with fail
      go_roundw
      case rel =>
        refine ⟨k + 1, by omega, by go_num, m3, HE3.out, HGk.out.trans (HG3.out.of HRC.out), fun t ht => ?_⟩
        rw [HTK.out, List.mem_append] at ht
        rcases ht with ht | ht
        · exact HG3.out.up t (HAk.out t ht)
        · have : t = s := by simpa using ht
          rw [this]
          exact HA3.out
      case measure => simp [intOf]; omega
    · have hku : k = u := by omega
      have c2 : wr.cell? ⟨gm + 1, 0, none⟩ = some (.slice (some ⟨gm, 0, none⟩) n n) := by rw [Lib.cell_of_heap HEk.out.hn]; rfl
      have HFN : Hid (Needed p names mk) := needed_of p names n mk HN.out HGk.out (fun s hs => HAk.out s (by rw [hku, HU.out, List.take_length]; exact hs))
      clear hlow
      go_wp2_with fail
      refine bodyPost_ret_by (v := .tuple #[.slice (some ⟨gm, 0, none⟩) n n, .nilIface]) ?_ rfl ?_
      · simp [results, Tryz.results19, go_sem]
      · exact ⟨mk, gm, rfl, HFN.out, HEk.out.hm, HLO.out⟩
end Sl
end
section
open Go.RowKit
namespace Sl
set_option maxHeartbeats 4000000 in
set_option maxRecDepth 100000 in
theorem needed_bad (p : Ld.Prg) (v sv : Value) (names : List (List UInt8)) (J : Nat) (hJ : J < names.length) (w : World) (h : IsPrg w p v) (hck : Ld.check p = none) (hs : Strs w sv (names.map toBA)) (hkn : ∀ i (hi : i < J), 0 ≤ Ld.number p.names names[i]) (hbad : Ld.number p.names names[J] < 0) :
    Calls Tryz.prog 19 #[v, sv] w fun e w' => e = .returned (.tuple #[.slice none 0 0, .iface 42 (.int .i64 7)]) ∧ Below w.heap.size w w' := by
  have hmf : ∀ (fn : Fn) (first cap : Array Value) (w : World), (Instr.makeFunc fn first cap).run Tryz.prog w = .ok (.func fn first cap) w := fun _ _ _ _ => rfl
  have HPR := hide h
  have HCK := hide hck
  have h12 := (Ld.check_names p hck).1
  obtain ⟨nv, rv, rfl, hn, hr⟩ := h
  obtain ⟨na, nc, rfl, _⟩ := hn.slice
  obtain ⟨ra, rc, rfl, _⟩ := hr.slice
  obtain ⟨sa, sc, rfl, hsl, hcs⟩ := strs_cells hs
  have HCS := hide hcs
  have HKN := hide hkn
  have HBAD := hide hbad
  obtain ⟨n, hnn⟩ : ∃ n, n = p.names.length := ⟨_, rfl⟩
  obtain ⟨q, hqq⟩ : ∃ q, q = p.rungs.length := ⟨_, rfl⟩
  obtain ⟨u, huu⟩ : ∃ u, u = names.length := ⟨_, rfl⟩
  have HN := hide hnn
  have HU := hide huu
  rw [← hnn] at HPR h12 ⊢
  rw [← hqq] at HPR ⊢
  rw [← huu] at hsl ⊢
  have hJu : J < u := by rw [HU.out]; exact hJ
  clear hn hr hnn hqq huu hck hcs hs hkn hbad
  obtain ⟨wA, hwA⟩ : ∃ wA, wA = w.alloc (.cells #[.slice na n nc, .slice ra q rc] 26) := ⟨_, rfl⟩
  have hbA : Below w.heap.size w wA := by rw [hwA]; exact (Below.refl _ _).alloc (Nat.le_refl _) _
  have hsA : wA.heap.size = w.heap.size + 1 := by rw [hwA]; simp
  have hA : wA.heap[w.heap.size]? = some (.cells #[.slice na n nc, .slice ra q rc] 26 (0, 0)) := by rw [hwA]; exact heap_alloc_new _ _
  have HKC := hide (Check_any p _ wA (HPR.out.below hbA))
  rw [HCK.out, hwA] at HKC
  have HWA := hide hwA
  have HBA := hide hbA
  have HA := hide hA
  clear hwA hbA hA
  go_enter Tryz.func19, Tryz.ntmps19
  go_wp2_with fail
  refine HKC.out.mono ?_
  rintro e w1 ⟨er, rfl, her, hb1⟩
  obtain rfl : er = .nilIface := her
  rw [← HWA.out] at hb1
  have HB1 := hide hb1
  have hz1 := hb1.size
  have h1p := (hb1.block w.heap.size (by omega)).trans HA.out
  have H1P := hide h1p
  have c0 : w1.cell? ⟨w.heap.size, 0, none⟩ = some (.slice na n nc) := by rw [Lib.cell_of_heap h1p]; rfl
  have c1 : w1.cell? ⟨w.heap.size, 1, none⟩ = some (.slice ra q rc) := by rw [Lib.cell_of_heap h1p]; rfl
  obtain ⟨cb, hcb⟩ : ∃ cb : Array Value, cb = ⟨(List.replicate n false).map boolV⟩ := ⟨_, rfl⟩
  have m1 := fun w => makeB w n h12
  rw [← hcb] at m1
  have HCB := hide hcb
  clear hcb
  have hst : (store ⟨w1.heap.size + 1 + 1, 0, none⟩ (addV w.heap.size (w1.heap.size + 1) (w1.heap.size + 1 + 1))).run Tryz.prog (((w1.alloc (.cells cb 4)).alloc (.cells #[.slice (some ⟨w1.heap.size, 0, none⟩) n n] 59)).alloc (.cells #[.nilFunc] 106)) = .ok () (((w1.alloc (.cells cb 4)).alloc (.cells #[.slice (some ⟨w1.heap.size, 0, none⟩) n n] 59)).alloc (.cells #[addV w.heap.size (w1.heap.size + 1) (w1.heap.size + 1 + 1)] 106)) := by
    rw [run_store _ _ _ _ _ rfl]
    simp [go_sem]
  unfold addV at hst
  clear hb1 HKC h1p
  obtain ⟨wE, hwE⟩ : ∃ wE, wE = ((w1.alloc (.cells cb 4)).alloc (.cells #[.slice (some ⟨w1.heap.size, 0, none⟩) n n] 59)).alloc (.cells #[addV w.heap.size (w1.heap.size + 1) (w1.heap.size + 1 + 1)] 106) := ⟨_, rfl⟩
  have HEE : Hid (Env w w.heap.size (w1.heap.size + 1) (w1.heap.size + 1 + 1) w1.heap.size n (.slice na n nc) (.slice ra q rc) (List.replicate n false) wE) := by
    have hbE : Below w1.heap.size w1 wE := by rw [hwE]; exact (((Below.refl _ _).alloc (Nat.le_refl _) _).alloc (by simp) _).alloc (by simp; omega) _
    refine ⟨HBA.out.trans ((HB1.out.trans (hbE.mono HB1.out.size)).mono HBA.out.size), (hbE.block _ (by omega)).trans H1P.out, ?_, ?_, ?_, by omega, by simp⟩
    · rw [hwE]
      exact (Below.heap_alloc _ _ _ (by simp)).trans (by have := heap_alloc_new (w1.alloc (.cells cb 4)) (.cells #[.slice (some ⟨w1.heap.size, 0, none⟩) n n] 59); rw [World.size_alloc] at this; exact this)
    · rw [hwE]
      have := heap_alloc_new ((w1.alloc (.cells cb 4)).alloc (.cells #[.slice (some ⟨w1.heap.size, 0, none⟩) n n] 59)) (.cells #[addV w.heap.size (w1.heap.size + 1) (w1.heap.size + 1 + 1)] 106)
      rw [World.size_alloc, World.size_alloc] at this
      exact this
    · rw [hwE, ← HCB.out]
      exact (Below.heap_alloc _ _ _ (by simp; omega)).trans ((Below.heap_alloc _ _ _ (by simp)).trans (heap_alloc_new w1 (.cells cb 4)))
  have HWE := hide hwE
  unfold addV at hwE
  go_wp2_with fail
  rw [← hwE]
  clear hwE hst m1 c0 c1
  generalize w1.heap.size = gm at *
  generalize hB : w.heap.size = B at *
  have HB := hide hB
  clear hB
  go_loopw [23] (fun i wr => ∃ k : Nat, k ≤ J ∧ i = .int .i64 (k : Int) ∧ ∃ mk : List Bool, Hid (Env w B (gm + 1) (gm + 1 + 1) gm n (.slice na n nc) (.slice ra q rc) mk wr) ∧ Hid (Grown p names (List.replicate n false) mk) ∧ Hid (∀ s, s ∈ names.take k → Sc.told p.names mk s = true)) (fun i _ => u - (intOf i).toNat)
  case atStart => exact ⟨0, Nat.zero_le _, rfl, _, HEE.out, Grown.refl _ _ _, fun s hs => by simp at hs⟩
  case round =>
    obtain ⟨k, hk, rfl, mk, HEk, HGk, HAk⟩ := hrel
    have hlow := HEk.out.low
    have HLO := hide hlow
    obtain ⟨l1, l2, l3, l4⟩ := HEk.out.lt
    have hlt : k < u := by omega
    have hkl : k < names.length := by rw [← HU.out]; exact hlt
    by_cases hkJ : k < J
    · obtain ⟨gs, o, rfl, hsc, hcj⟩ := HCS.out k hkl
      have hcr : wr.cell? ⟨gs, o + k, none⟩ = some (.string ⟨names[k].toArray⟩) := (hlow.cell (World.block_lt_of_cell? _ _ hcj)).trans hcj
      have hkn : 0 ≤ Ld.number p.names names[k] := HKN.out k hkJ
      have HRC : Hid (Rch p names names[k]) := .base (List.getElem_mem hkl)
      have HTK : Hid (names.take (k + 1) = names.take k ++ [names[k]]) := List.take_succ_eq_append_getElem hkl
      have c0 : wr.cell? ⟨B, 0, none⟩ = some (.slice na n nc) := by rw [Lib.cell_of_heap HEk.out.hp]; rfl
      have c1 : wr.cell? ⟨B, 1, none⟩ = some (.slice ra q rc) := by rw [Lib.cell_of_heap HEk.out.hp]; rfl
      obtain ⟨nv', rv', e0, hna, hra⟩ := HPR.out.below hlow
      simp only [Value.agg.injEq, Array.mk.injEq, List.cons.injEq, and_true] at e0
      obtain ⟨rfl, rfl⟩ := e0
      have HNU := hide (Number_any p.names _ (.slice ra q rc) names[k] wr hna ⟨_, _, _, rfl⟩)
      rw [← HU.out] at hsc
      have HAD : Hid (∀ W, Env w B (gm + 1) (gm + 1 + 1) gm n (.slice na n nc) (.slice ra q rc) mk W → Calls Tryz.prog 44 #[.string ⟨names[k].toArray⟩, .pointer (some ⟨B, 0, none⟩), .pointer (some ⟨gm + 1, 0, none⟩), .pointer (some ⟨gm + 1 + 1, 0, none⟩)] W (Added w B (gm + 1) (gm + 1 + 1) gm n (.slice na n nc) (.slice ra q rc) p names[k] mk W)) := fun W hW =>
        add_any w B (gm + 1) (gm + 1 + 1) gm n _ _ p HPR.out HCK.out HN.out _ mk names[k] W hW (Nat.le_refl _) hkn
      generalize names[k] = s at *
      generalize Ld.number p.names s = num at *
      clear hcj hna hra hlow
      go_wp2_with fail
      refine HNU.out.mono ?_
      rintro e w2 ⟨rfl, hb2⟩
      have HE2 := hide (HEk.out.below hb2)
      have c3 : w2.cell? ⟨gm + 1 + 1, 0, none⟩ = some (addV B (gm + 1) (gm + 1 + 1)) := by rw [Lib.cell_of_heap HE2.out.ha]; rfl
      unfold addV at c3
      obtain ⟨t1, t2, t3, t4⟩ := HE2.out.lt
      have HCA := hide (HAD.out w2 HE2.out)
      clear hb2 HNU HAD
      go_wp2_with fail
      refine HCA.out.mono ?_
      rintro e w3 ⟨rfl, m3, hE3, hT3, hG3, hA3⟩
      have HE3 := hide hE3
      have HG3 := hide hG3
      have HA3 := hide hA3
      clear hE3 hT3 hG3 hA3 HCA
      go_wp2_with fail
      go_roundw
      case rel =>
        refine ⟨k + 1, by omega, by go_num, m3, HE3.out, HGk.out.trans (HG3.out.of HRC.out), fun t ht => ?_⟩
        rw [HTK.out, List.mem_append] at ht
        rcases ht with ht | ht
        · exact HG3.out.up t (HAk.out t ht)
        · have : t = s := by simpa using ht
          rw [this]
          exact HA3.out
      case measure => simp [intOf]; omega
    · obtain rfl : J = k := by omega
      obtain ⟨gs, o, rfl, hsc, hcj⟩ := HCS.out J hkl
      have hcr : wr.cell? ⟨gs, o + J, none⟩ = some (.string ⟨names[J].toArray⟩) := (hlow.cell (World.block_lt_of_cell? _ _ hcj)).trans hcj
      have hnb := HBAD.out
      have c0 : wr.cell? ⟨B, 0, none⟩ = some (.slice na n nc) := by rw [Lib.cell_of_heap HEk.out.hp]; rfl
      have c1 : wr.cell? ⟨B, 1, none⟩ = some (.slice ra q rc) := by rw [Lib.cell_of_heap HEk.out.hp]; rfl
      obtain ⟨nv', rv', e0, hna, hra⟩ := HPR.out.below hlow
      simp only [Value.agg.injEq, Array.mk.injEq, List.cons.injEq, and_true] at e0
      obtain ⟨rfl, rfl⟩ := e0
      have HNU := hide (Number_any p.names _ (.slice ra q rc) names[J] wr hna ⟨_, _, _, rfl⟩)
      rw [← HU.out] at hsc
      generalize names[J] = s at *
      generalize Ld.number p.names s = num at *
      clear hcj hna hra hlow
      go_wp2_with fail
      refine HNU.out.mono ?_
      rintro e w2 ⟨rfl, hb2⟩
      have HLO2 := hide (HLO.out.trans (hb2.mono HLO.out.size))
      clear hb2 HNU
      go_wp2_with fail
      refine bodyPost_ret_by (v := .tuple #[.slice none 0 0, .iface 42 (.int .i64 7)]) ?_ rfl ?_
      · simp [results, Tryz.results19, go_sem]
      · exact ⟨rfl, HLO2.out⟩
end Sl
end
end Go.Proofs.YtjfgfcajmkbmeaaGreatDoor
