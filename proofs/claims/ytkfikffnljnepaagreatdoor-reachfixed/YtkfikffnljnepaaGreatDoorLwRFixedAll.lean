/-
  The walks of package reach's Stays, Comes and Forces of lists that came in, at whatever offset. (As RcFix.) The walks of package reach's Stays, Comes and Forces where they refuse. A machine's table, state by state. The walk of ReachFixed: the most states that stay, the fewest from which one may come, or must, are the document's.
-/
import Derived.Test.YtkfikffnljnepaaGreatDoorRcFixAll
import Derived.Test.YtkfikffnljnepaaGreatDoorRcBRowAll
import Derived.Test.YtkfikffnljnepaaGreatDoorRcCloneAll
import Derived.Test.YtkfikffnljnepaaGreatDoorLwMachsAll
import Derived.Test.YtkfikffnljnepaaGreatDoorRcMathAll
import Derived.Test.YtkfikffnljnepaaGreatDoorRcAheadAll
namespace Go.Proofs.YtkfikffnljnepaaGreatDoor
section
open Go.RowKit
set_option maxHeartbeats 2000000 in
set_option maxRecDepth 100000 in
theorem fitsO_any (bm S I gN : Nat) (next : Nat → List Nat) (uN : List Nat) (v : Value) (l : List Bool) (w : World) (h : NextAt w bm S I next gN uN) (hv : BoolsO w v l) (hl : l.length = S) :
    Calls Tryz.prog 26 #[.pointer (some ⟨bm, 0, none⟩), v] w fun e w' => e = .returned .nilIface ∧ w' = w := by
  obtain ⟨a, c, rfl⟩ := hv.slice
  have c4 := h.1
  have pn := fun w a => ptrNe w a
  rw [hl]
  clear h hv hl
  go_enter Tryz.func26, Tryz.ntmps26
  go_wp2_with fail
  go_ret
  exact ⟨rfl, rfl⟩
set_option maxHeartbeats 2000000 in
set_option maxRecDepth 100000 in
theorem turnedO_any (v : Value) (l : List Bool) (w : World) (hv : BoolsO w v l) (hl6 : l.length ≤ 1000000) :
    Calls Tryz.prog 27 #[v] w fun e w' => ∃ g, e = .returned (.slice (some ⟨g, 0, none⟩) l.length l.length) ∧ BRow w' g (Rc.turn l) [] ∧ w.heap.size ≤ g ∧ Below w.heap.size w w' := by
  have HV := hide hv
  obtain ⟨a, c, rfl⟩ := hv.slice
  have mk := fun w => makeBs l.length hl6 w
  obtain ⟨cS, hcS⟩ : ∃ c, c = List.replicate l.length (Value.bool false) := ⟨_, rfl⟩
  rw [← hcS] at mk
  obtain ⟨w1, hw1⟩ : ∃ w1, w1 = w.alloc (.cells ⟨cS⟩ 4) := ⟨_, rfl⟩
  have HR1 : Hid (RowIs w1 w.heap.size 4 (((Rc.turn l).take 0).map boolV ++ List.replicate (l.length - (((Rc.turn l).take 0).map boolV).length) (.bool false))) := by
    show RowIs w1 w.heap.size 4 (List.replicate l.length (.bool false))
    rw [hw1, ← hcS]; exact RowIs.new _ _ _
  have HB1 : Hid (Below w.heap.size w w1) := by rw [hw1]; exact (Below.refl _ _).alloc (Nat.le_refl _) _
  obtain ⟨n, hn⟩ : ∃ n, n = l.length := ⟨_, rfl⟩
  have HN := hide hn
  rw [← hn] at HR1 mk hl6 HV ⊢
  clear hv hcS hn
  go_enter Tryz.func27, Tryz.ntmps27
  go_wp2_with fail
  rw [← hw1]
  clear hw1
  go_loopw [11] (fun i wr => ∃ k : Nat, k ≤ n ∧ i = .int .i64 (k : Int) ∧ Hid (RowIs wr w.heap.size 4 (((Rc.turn l).take k).map boolV ++ List.replicate (n - (((Rc.turn l).take k).map boolV).length) (.bool false))) ∧ Hid (Below w.heap.size w wr)) (fun i _ => n - (intOf i).toNat)
  case atStart => exact ⟨0, Nat.zero_le _, rfl, HR1.out, HB1.out⟩
  case round =>
    obtain ⟨k, hk, rfl, HR, HB⟩ := hrel
    have hlk : (((Rc.turn l).take k).map boolV).length = k := by rw [List.length_map, List.length_take, Rc.turn_len, ← HN.out]; omega
    by_cases hlt : k < n
    · have hkl : k < l.length := by rw [← HN.out]; exact hlt
      have hkt : k < (Rc.turn l).length := by rw [Rc.turn_len]; exact hkl
      have hx := List.getElem?_eq_getElem hkl
      obtain ⟨gv, ov, ga, c0⟩ := (HV.out.below HB.out).cell k _ hx
      subst ga
      have d0 : wr.cell? ⟨w.heap.size, k, none⟩ = some (.bool false) := HR.out.cell k _ (by rw [List.getElem?_append_right (by omega), List.getElem?_replicate, if_pos (by omega)])
      have f0 := HR.out.frozen k
      have hte : (Rc.turn l)[k] = !l[k] := by simp [Rc.turn]
      have HRN : Hid (RowIs (wr.setCell ⟨w.heap.size, k, none⟩ (.bool (!l[k]))) w.heap.size 4 (((Rc.turn l).take (k + 1)).map boolV ++ List.replicate (n - (((Rc.turn l).take (k + 1)).map boolV).length) (.bool false))) := by
        have h1 := HR.out.set k (.bool (!l[k]))
        have h2 := fill_set (((Rc.turn l).take k).map boolV) (.bool false) (.bool (!l[k])) n (by omega)
        rw [hlk] at h2
        rw [hlk, h2] at h1
        rw [List.take_succ_eq_append_getElem hkt, List.map_append, hte]
        exact h1
      have HBN : Hid (Below w.heap.size w (wr.setCell ⟨w.heap.size, k, none⟩ (.bool (!l[k])))) := HB.out.setCell (p := ⟨w.heap.size, k, none⟩) (Nat.le_refl _) _
      generalize l[k] = x at *
      clear hlk hx hte
      cases x
      all_goals
        go_wp2_with fail
        go_roundw
        case rel => exact ⟨k + 1, by omega, by go_num, HRN.out, HBN.out⟩
        case measure => simp [intOf]; omega
    · have hkn : k = n := by omega
      subst hkn
      have hrow := HR.out
      rw [hlk, Nat.sub_self, List.replicate_zero, List.take_of_length_le (by rw [Rc.turn_len, ← HN.out]; exact Nat.le_refl _)] at hrow
      have HRF := hide hrow
      clear hrow hlk
      go_wp2_with fail
      go_ret
      exact ⟨w.heap.size, rfl, HRF.out, Nat.le_refl _, HB.out⟩
set_option maxHeartbeats 2000000 in
set_option maxRecDepth 100000 in
theorem cloneBO_any (l : List Bool) (v : Value) (w : World) (h : BoolsO w v l) (hlen : l.length ≤ 1000000) (hn0 : 0 < l.length) :
    Calls Tryz.prog 32 #[v] w fun e w' => ∃ g cp rest, e = .returned (.slice (some ⟨g, 0, none⟩) l.length cp) ∧ l.length ≤ cp ∧ BRow w' g l rest ∧ w.heap.size ≤ g ∧ Below w.heap.size w w' := by
  obtain ⟨i0, hi0, hz0, hz1, hz2⟩ := info_parts Tryz.infoBool
  have q1 := fun a n c => eqNilB_some w a n c
  have HBA : Hid (Below w.heap.size w (w.alloc (.cells #[] 4))) := (Below.refl _ w).alloc (Nat.le_refl _) _
  obtain ⟨g, o, cap, rfl, _, hat⟩ : ∃ g o cap, v = .slice (some ⟨g, o, none⟩) l.length cap ∧ l.length ≤ cap ∧ ∀ (k : Nat) x, l[k]? = some x → w.cell? ⟨g, o + k, none⟩ = some (.bool x) := by
    rcases h with ⟨h0, _⟩ | h
    · rw [h0] at hn0; simp at hn0
    · exact h
  have HOWN : Hid ((w.alloc (.cells #[] 4)).ownsRow w.heap.size 4 1 (.slice (some ⟨w.heap.size, 0, none⟩) 0 0) 0 []) := own_zero w w.heap.size 4 1 (Nat.le_refl _)
  have HNEW : Hid (∀ j u, (l.map boolV)[j]? = some u → (w.alloc (.cells #[] 4)).cell? ((⟨g, o, none⟩ : Addr).add j) = some u) := by
    intro j u hu
    have e : (⟨g, o, none⟩ : Addr).add j = ⟨g, o + j, none⟩ := by unfold Addr.add; split <;> simp_all
    rw [e]
    rw [List.getElem?_map] at hu
    cases hb : l[j]? with
    | none => rw [hb] at hu; cases hu
    | some b =>
      rw [hb] at hu
      simp only [Option.map_some, Option.some.injEq] at hu
      subst hu
      have hc := hat j b hb
      exact (HBA.out.cell (World.block_lt_of_cell? _ _ hc)).trans hc
  have HONE : Hid (∀ u ∈ l.map boolV, u.oneCell' = true) := by
    intro u hu
    obtain ⟨b, _, rfl⟩ := List.mem_map.1 hu
    rfl
  have HLC : Hid ((l.map boolV).length = l.length * 1) := by show _ = _; simp
  obtain ⟨n, hnn⟩ : ∃ n, n = l.length := ⟨_, rfl⟩
  have HN := hide hnn
  rw [← hnn] at hlen hn0 HLC ⊢
  clear hat hnn
  go_enter Tryz.func32, Tryz.ntmps32
  go_wp2_with (at_builtin; refine wpList_append_lies _ rfl (.tmp 5) (.tmp 6) 45 rfl w.heap.size 4 i0 _ 1 1 Tryz.underlying45 hi0 hz0 hz1 hz2 rfl (by decide) (.slice (some ⟨w.heap.size, 0, none⟩) 0 0) 0 [] rfl HOWN.out ⟨g, o, none⟩ n cap (l.map boolV) rfl HLC.out HNEW.out HONE.out hn0 (by unfold maxLen; omega) (by omega) (by simp) (w.heap.size + 1) (by simp) ?_; intro g2 cap2 wC hown hgrow hat2 hltg)
  go_ret
  rcases hown.2 with ⟨hx, _⟩ | ⟨g3, cap3, cur, hx, hg3, hcur, hc3, _, _, htk⟩
  · cases hx
  · simp only [Value.slice.injEq, Option.some.injEq, Addr.mk.injEq] at hx
    obtain ⟨⟨rfl, _⟩, _, rfl⟩ := hx
    refine ⟨g2, cap2, cur.toList.drop n, rfl, by omega, ?_, hg3, HBA.out.grown hgrow (by simp) (fun j e => by simp only [Value.ownBlock, Option.some.injEq] at e; omega)⟩
    have e : l.map boolV ++ cur.toList.drop n = cur.toList := by
      rw [Nat.zero_add, Nat.mul_one, List.nil_append] at htk
      rw [← htk, List.take_append_drop]
    show RowIs wC g2 4 (l.map boolV ++ cur.toList.drop n)
    rw [e]
    exact hcur
set_option maxHeartbeats 4000000 in
set_option maxRecDepth 100000 in
theorem StaysO_any (bm S I gN : Nat) (next : Nat → List Nat) (uN : List Nat) (v : Value) (l : List Bool) (w : World) (h : NextAt w bm S I next gN uN) (hS1 : 1 ≤ S) (hS : S ≤ 4096) (hI : I ≤ 64) (_hI1 : 1 ≤ I) (hnl : ∀ s, (next s).length = I) (hnx : ∀ f s, f < S → s ∈ next f → s < S) (hv : BoolsO w v l) (hl : l.length = S) :
    Calls Tryz.prog 12 #[.pointer (some ⟨bm, 0, none⟩), v] w (Stayed w S next l) := by
  have hmf : ∀ (fn : Fn) (first cap : Array Value) (w : World), (Instr.makeFunc fn first cap).run Tryz.prog w = .ok (.func fn first cap) w := fun _ _ _ _ => rfl
  have HV := hide hv
  have HNA := hide h
  obtain ⟨wA, hwA⟩ : ∃ wA, wA = w.alloc (.cells #[.pointer (some ⟨bm, 0, none⟩)] 22) := ⟨_, rfl⟩
  have hbA : Below w.heap.size w wA := by rw [hwA]; exact (Below.refl _ _).alloc (Nat.le_refl _) _
  have hsA : wA.heap.size = w.heap.size + 1 := by rw [hwA]; simp
  have hA : wA.heap[w.heap.size]? = some (.cells #[.pointer (some ⟨bm, 0, none⟩)] 22 (0, 0)) := by rw [hwA]; exact heap_alloc_new _ _
  have HF := hide (fitsO_any bm S I gN next uN v l wA (h.below hbA) (hv.below hbA) hl)
  have HT := hide (turnedO_any v l wA (hv.below hbA) (by omega))
  rw [hl] at HT
  obtain ⟨a, c, rfl⟩ := hv.slice
  rw [hl] at HF HT ⊢
  rw [hwA] at HF HT
  have HWA := hide hwA
  have HBA := hide hbA
  have HA := hide hA
  clear hwA hbA hA h hv
  go_enter Tryz.func12, Tryz.ntmps12
  go_wp2_with fail
  refine HF.out.mono ?_
  rintro e w0 ⟨rfl, hw0⟩
  rw [hw0]
  clear HF hw0
  go_wp2_with fail
  refine HT.out.mono ?_
  rintro e w1 ⟨gi, rfl, hrow, hgi, hb1⟩
  rw [← HWA.out] at hgi hb1
  have hz1 := hb1.size
  have hM1 := (hb1.block _ (by omega)).trans HA.out
  have HB1 := hide (HBA.out.trans (hb1.mono HBA.out.size))
  have hg1 := RowIs.lt hrow
  obtain ⟨w2, hw2⟩ : ∃ w2, w2 = w1.alloc (.cells #[.slice (some ⟨gi, 0, none⟩) S S] 45) := ⟨_, rfl⟩
  have hb2 : Below w1.heap.size w1 w2 := by rw [hw2]; exact (Below.refl _ _).alloc (Nat.le_refl _) _
  have hz2 : w2.heap.size = w1.heap.size + 1 := by rw [hw2]; simp
  have hO2 : w2.heap[w1.heap.size]? = some (.cells #[.slice (some ⟨gi, 0, none⟩) S S] 45 (0, 0)) := by rw [hw2]; exact heap_alloc_new _ _
  have hM2 := (hb2.block _ (by omega)).trans hM1
  have HB2 := hide (HB1.out.trans (hb2.mono HB1.out.size))
  have m1 : w1.cell? ⟨w.heap.size, 0, none⟩ = some (.pointer (some ⟨bm, 0, none⟩)) := by rw [Lib.cell_of_heap hM1]; rfl
  have hwl : w.heap.size < w1.heap.size := by omega
  have HBW : Hid (∀ W, w2.grownBy W (some gi) → Below w.heap.size w W) := fun W hW => HB2.out.grown hW HB2.out.size (fun j e => by cases e; omega)
  have HCE : Hid (∀ W, w2.grownBy W (some gi) → W.cell? ⟨w.heap.size, 0, none⟩ = some (.pointer (some ⟨bm, 0, none⟩)) ∧ W.cell? ⟨w1.heap.size, 0, none⟩ = some (.slice (some ⟨gi, 0, none⟩) S S)) := fun W hW =>
    ⟨by rw [Lib.cell_of_heap ((hW.block _ (by omega) (fun e => by cases e; omega)).trans hM2)]; rfl, by rw [Lib.cell_of_heap ((hW.block _ (by omega) (fun e => by cases e; omega)).trans hO2)]; rfl⟩
  have hent : Entering w2 gi S [] (.func (.func 29) #[] #[.pointer (some ⟨w.heap.size, 0, none⟩), .pointer (some ⟨w1.heap.size, 0, none⟩)]) (fun l s => (next s).any (fun t => l.getD t false)) :=
    ⟨_, _, rfl, fun _ _ => by kernel_rfl, fun r s W hW hr hR hs => stays1_any _ _ bm S I gN gi S next uN _ r s W (HCE.out W hW).1 (HCE.out W hW).2 (HNA.out.below (HBW.out W hW)) hS hI hnl hnx hr hR hs⟩
  have HG := hide (grow_any bm S I gN next uN gi S [] (Rc.turn l) _ (Rc.Some next) _ w2 (HNA.out.below HB2.out) hS hI hnl hnx (by rw [Rc.turn_len]; exact hl) (hrow.below hb2) (Nat.le_refl _) hent (Rc.asks_some next) (fun X s _ ⟨t, h1, h2⟩ => ⟨t, h1, h2⟩) (fun r s => some_eb next r s))
  rw [hw2] at HG
  have HW2 := hide hw2
  have hgw : w.heap.size ≤ gi := by omega
  clear hw2 hb2 hO2 hM2 hM1 hrow hb1 hent HT
  go_wp2_with fail
  refine HG.out.mono ?_
  rintro e w3 ⟨rfl, hgr, r, hr, hrow3⟩
  rw [← HW2.out] at hgr
  obtain ⟨_, o3⟩ := HCE.out w3 hgr
  have HB3 := hide (HBW.out w3 hgr)
  have HR := hide hr
  have HR3 := hide hrow3
  have hrl : r.length = S := hr.len
  have HT2 := hide (turned_any _ r w3 (hrow3.bools (cp := S) (by omega)))
  rw [hrl] at HT2
  clear hgr hr hrow3 HG m1
  go_wp2_with fail
  refine HT2.out.mono ?_
  rintro e w4 ⟨g4, rfl, hrow4, hg4, hb4⟩
  have HR4 := hide hrow4
  have HB4 := hide (HB3.out.trans (hb4.mono HB3.out.size))
  have hz4 := HB3.out.size
  clear hrow4 hb4 HT2
  go_wp2_with fail
  refine bodyPost_ret (results_tmp2 rfl _ _ _) rfl ?_
  exact ⟨g4, r, rfl, HR.out, HR4.out, by omega, HB4.out⟩
set_option maxHeartbeats 4000000 in
set_option maxRecDepth 100000 in
theorem ComesO_any (bm S I gN : Nat) (next : Nat → List Nat) (uN : List Nat) (v : Value) (l : List Bool) (w : World) (h : NextAt w bm S I next gN uN) (hS1 : 1 ≤ S) (hS : S ≤ 4096) (hI : I ≤ 64) (_hI1 : 1 ≤ I) (hnl : ∀ s, (next s).length = I) (hnx : ∀ f s, f < S → s ∈ next f → s < S) (hv : BoolsO w v l) (hl : l.length = S) :
    Calls Tryz.prog 13 #[.pointer (some ⟨bm, 0, none⟩), v] w (Fixed w S (Rc.Some next) l) := by
  have hmf : ∀ (fn : Fn) (first cap : Array Value) (w : World), (Instr.makeFunc fn first cap).run Tryz.prog w = .ok (.func fn first cap) w := fun _ _ _ _ => rfl
  have HV := hide hv
  have HNA := hide h
  obtain ⟨wA, hwA⟩ : ∃ wA, wA = w.alloc (.cells #[.pointer (some ⟨bm, 0, none⟩)] 22) := ⟨_, rfl⟩
  have hbA : Below w.heap.size w wA := by rw [hwA]; exact (Below.refl _ _).alloc (Nat.le_refl _) _
  have hsA : wA.heap.size = w.heap.size + 1 := by rw [hwA]; simp
  have hA : wA.heap[w.heap.size]? = some (.cells #[.pointer (some ⟨bm, 0, none⟩)] 22 (0, 0)) := by rw [hwA]; exact heap_alloc_new _ _
  have HF := hide (fitsO_any bm S I gN next uN v l wA (h.below hbA) (hv.below hbA) hl)
  have HT := hide (cloneBO_any l v wA (hv.below hbA) (by omega) (by omega))
  rw [hl] at HT
  obtain ⟨a, c, rfl⟩ := hv.slice
  rw [hl] at HF HT ⊢
  rw [hwA] at HF HT
  have HWA := hide hwA
  have HBA := hide hbA
  have HA := hide hA
  clear hwA hbA hA h hv
  go_enter Tryz.func13, Tryz.ntmps13
  go_wp2_with fail
  refine HF.out.mono ?_
  rintro e w0 ⟨rfl, hw0⟩
  rw [hw0]
  clear HF hw0
  go_wp2_with fail
  refine HT.out.mono ?_
  rintro e w1 ⟨gi, cp, rest, rfl, hcp, hrow, hgi, hb1⟩
  rw [← HWA.out] at hgi hb1
  have hz1 := hb1.size
  have hM1 := (hb1.block _ (by omega)).trans HA.out
  have HB1 := hide (HBA.out.trans (hb1.mono HBA.out.size))
  have hg1 := RowIs.lt hrow
  obtain ⟨w2, hw2⟩ : ∃ w2, w2 = w1.alloc (.cells #[.slice (some ⟨gi, 0, none⟩) S cp] 45) := ⟨_, rfl⟩
  have hb2 : Below w1.heap.size w1 w2 := by rw [hw2]; exact (Below.refl _ _).alloc (Nat.le_refl _) _
  have hz2 : w2.heap.size = w1.heap.size + 1 := by rw [hw2]; simp
  have hO2 : w2.heap[w1.heap.size]? = some (.cells #[.slice (some ⟨gi, 0, none⟩) S cp] 45 (0, 0)) := by rw [hw2]; exact heap_alloc_new _ _
  have hM2 := (hb2.block _ (by omega)).trans hM1
  have HB2 := hide (HB1.out.trans (hb2.mono HB1.out.size))
  have m1 : w1.cell? ⟨w.heap.size, 0, none⟩ = some (.pointer (some ⟨bm, 0, none⟩)) := by rw [Lib.cell_of_heap hM1]; rfl
  have hwl : w.heap.size < w1.heap.size := by omega
  have HBW : Hid (∀ W, w2.grownBy W (some gi) → Below w.heap.size w W) := fun W hW => HB2.out.grown hW HB2.out.size (fun j e => by cases e; omega)
  have HCE : Hid (∀ W, w2.grownBy W (some gi) → W.cell? ⟨w.heap.size, 0, none⟩ = some (.pointer (some ⟨bm, 0, none⟩)) ∧ W.cell? ⟨w1.heap.size, 0, none⟩ = some (.slice (some ⟨gi, 0, none⟩) S cp)) := fun W hW =>
    ⟨by rw [Lib.cell_of_heap ((hW.block _ (by omega) (fun e => by cases e; omega)).trans hM2)]; rfl, by rw [Lib.cell_of_heap ((hW.block _ (by omega) (fun e => by cases e; omega)).trans hO2)]; rfl⟩
  have hent : Entering w2 gi S rest (.func (.func 33) #[] #[.pointer (some ⟨w.heap.size, 0, none⟩), .pointer (some ⟨w1.heap.size, 0, none⟩)]) (fun l s => (next s).any (fun t => l.getD t false)) :=
    ⟨_, _, rfl, fun _ _ => by kernel_rfl, fun r s W hW hr hR hs => comes1_any _ _ bm S I gN gi cp next uN _ r s W (HCE.out W hW).1 (HCE.out W hW).2 (HNA.out.below (HBW.out W hW)) hS hI hnl hnx hr hR hs⟩
  have HG := hide (grow_any bm S I gN next uN gi cp rest l _ (Rc.Some next) _ w2 (HNA.out.below HB2.out) hS hI hnl hnx hl (hrow.below hb2) hcp hent (Rc.asks_some next) (fun X s _ ⟨t, h1, h2⟩ => ⟨t, h1, h2⟩) (fun r s => some_eb next r s))
  rw [hw2] at HG
  have HW2 := hide hw2
  have hgw : w.heap.size ≤ gi := by omega
  clear hw2 hb2 hO2 hM2 hM1 hrow hb1 hent HT
  go_wp2_with fail
  refine HG.out.mono ?_
  rintro e w3 ⟨rfl, hgr, r, hr, hrow3⟩
  rw [← HW2.out] at hgr
  obtain ⟨_, o3⟩ := HCE.out w3 hgr
  have HB3 := hide (HBW.out w3 hgr)
  have HR := hide hr
  have HR3 := hide hrow3
  have hrl : r.length = S := hr.len
  clear hgr hr hrow3 HG m1
  go_wp2_with fail
  refine bodyPost_ret (results_tmp2 rfl _ _ _) rfl ?_
  exact ⟨gi, cp, rest, r, rfl, hcp, HR.out, HR3.out, hgw, HB3.out⟩
set_option maxHeartbeats 4000000 in
set_option maxRecDepth 100000 in
theorem ForcesO_any (bm S I gN : Nat) (next : Nat → List Nat) (uN : List Nat) (v : Value) (l : List Bool) (w : World) (h : NextAt w bm S I next gN uN) (hS1 : 1 ≤ S) (hS : S ≤ 4096) (hI : I ≤ 64) (hI1 : 1 ≤ I) (hnl : ∀ s, (next s).length = I) (hnx : ∀ f s, f < S → s ∈ next f → s < S) (hv : BoolsO w v l) (hl : l.length = S) :
    Calls Tryz.prog 14 #[.pointer (some ⟨bm, 0, none⟩), v] w (Fixed w S (Rc.All next) l) := by
  have hmf : ∀ (fn : Fn) (first cap : Array Value) (w : World), (Instr.makeFunc fn first cap).run Tryz.prog w = .ok (.func fn first cap) w := fun _ _ _ _ => rfl
  have HV := hide hv
  have HNA := hide h
  obtain ⟨wA, hwA⟩ : ∃ wA, wA = w.alloc (.cells #[.pointer (some ⟨bm, 0, none⟩)] 22) := ⟨_, rfl⟩
  have hbA : Below w.heap.size w wA := by rw [hwA]; exact (Below.refl _ _).alloc (Nat.le_refl _) _
  have hsA : wA.heap.size = w.heap.size + 1 := by rw [hwA]; simp
  have hA : wA.heap[w.heap.size]? = some (.cells #[.pointer (some ⟨bm, 0, none⟩)] 22 (0, 0)) := by rw [hwA]; exact heap_alloc_new _ _
  have HF := hide (fitsO_any bm S I gN next uN v l wA (h.below hbA) (hv.below hbA) hl)
  have HT := hide (cloneBO_any l v wA (hv.below hbA) (by omega) (by omega))
  rw [hl] at HT
  obtain ⟨a, c, rfl⟩ := hv.slice
  rw [hl] at HF HT ⊢
  rw [hwA] at HF HT
  have HWA := hide hwA
  have HBA := hide hbA
  have HA := hide hA
  clear hwA hbA hA h hv
  go_enter Tryz.func14, Tryz.ntmps14
  go_wp2_with fail
  refine HF.out.mono ?_
  rintro e w0 ⟨rfl, hw0⟩
  rw [hw0]
  clear HF hw0
  go_wp2_with fail
  refine HT.out.mono ?_
  rintro e w1 ⟨gi, cp, rest, rfl, hcp, hrow, hgi, hb1⟩
  rw [← HWA.out] at hgi hb1
  have hz1 := hb1.size
  have hM1 := (hb1.block _ (by omega)).trans HA.out
  have HB1 := hide (HBA.out.trans (hb1.mono HBA.out.size))
  have hg1 := RowIs.lt hrow
  obtain ⟨w2, hw2⟩ : ∃ w2, w2 = w1.alloc (.cells #[.slice (some ⟨gi, 0, none⟩) S cp] 45) := ⟨_, rfl⟩
  have hb2 : Below w1.heap.size w1 w2 := by rw [hw2]; exact (Below.refl _ _).alloc (Nat.le_refl _) _
  have hz2 : w2.heap.size = w1.heap.size + 1 := by rw [hw2]; simp
  have hO2 : w2.heap[w1.heap.size]? = some (.cells #[.slice (some ⟨gi, 0, none⟩) S cp] 45 (0, 0)) := by rw [hw2]; exact heap_alloc_new _ _
  have hM2 := (hb2.block _ (by omega)).trans hM1
  have HB2 := hide (HB1.out.trans (hb2.mono HB1.out.size))
  have m1 : w1.cell? ⟨w.heap.size, 0, none⟩ = some (.pointer (some ⟨bm, 0, none⟩)) := by rw [Lib.cell_of_heap hM1]; rfl
  have hwl : w.heap.size < w1.heap.size := by omega
  have HBW : Hid (∀ W, w2.grownBy W (some gi) → Below w.heap.size w W) := fun W hW => HB2.out.grown hW HB2.out.size (fun j e => by cases e; omega)
  have HCE : Hid (∀ W, w2.grownBy W (some gi) → W.cell? ⟨w.heap.size, 0, none⟩ = some (.pointer (some ⟨bm, 0, none⟩)) ∧ W.cell? ⟨w1.heap.size, 0, none⟩ = some (.slice (some ⟨gi, 0, none⟩) S cp)) := fun W hW =>
    ⟨by rw [Lib.cell_of_heap ((hW.block _ (by omega) (fun e => by cases e; omega)).trans hM2)]; rfl, by rw [Lib.cell_of_heap ((hW.block _ (by omega) (fun e => by cases e; omega)).trans hO2)]; rfl⟩
  have hent : Entering w2 gi S rest (.func (.func 34) #[] #[.pointer (some ⟨w.heap.size, 0, none⟩), .pointer (some ⟨w1.heap.size, 0, none⟩)]) (fun l s => !(next s).any (fun t => !l.getD t false)) :=
    ⟨_, _, rfl, fun _ _ => by kernel_rfl, fun r s W hW hr hR hs => forces1_any _ _ bm S I gN gi cp next uN _ r s W (HCE.out W hW).1 (HCE.out W hW).2 (HNA.out.below (HBW.out W hW)) hS hI hnl hnx hr hR hs⟩
  have HG := hide (grow_any bm S I gN next uN gi cp rest l _ (Rc.All next) _ w2 (HNA.out.below HB2.out) hS hI hnl hnx hl (hrow.below hb2) hcp hent (Rc.asks_all next) (fun X s hs he => all_hit next I hI1 hnl X s he) (fun r s => all_eb next r s))
  rw [hw2] at HG
  have HW2 := hide hw2
  have hgw : w.heap.size ≤ gi := by omega
  clear hw2 hb2 hO2 hM2 hM1 hrow hb1 hent HT
  go_wp2_with fail
  refine HG.out.mono ?_
  rintro e w3 ⟨rfl, hgr, r, hr, hrow3⟩
  rw [← HW2.out] at hgr
  obtain ⟨_, o3⟩ := HCE.out w3 hgr
  have HB3 := hide (HBW.out w3 hgr)
  have HR := hide hr
  have HR3 := hide hrow3
  have hrl : r.length = S := hr.len
  clear hgr hr hrow3 HG m1
  go_wp2_with fail
  refine bodyPost_ret (results_tmp2 rfl _ _ _) rfl ?_
  exact ⟨gi, cp, rest, r, rfl, hcp, HR.out, HR3.out, hgw, HB3.out⟩
end
section
open Go.RowKit
theorem beq_errno (x : Value) (w : World) : (binOp BinOp.neq 28 (.iface 35 x) .nilIface).run Tryz.prog w = .ok (.bool true) w := by kernel_rfl
theorem ptrNilM (w : World) : (binOp BinOp.eql 22 (.pointer none) (.pointer none)).run Tryz.prog w = .ok (.bool true) w := by kernel_rfl
set_option maxHeartbeats 2000000 in
set_option maxRecDepth 100000 in
theorem fits_nil (v : Value) (w : World) : Calls Tryz.prog 26 #[.pointer none, v] w fun e w' => e = .returned (.iface 35 (.int .i64 7)) ∧ w' = w := by
  have pn := ptrNilM
  go_enter Tryz.func26, Tryz.ntmps26
  go_wp2_with fail
  go_ret
  exact ⟨rfl, rfl⟩
set_option maxHeartbeats 2000000 in
set_option maxRecDepth 100000 in
theorem fits_bad (bm S I gN : Nat) (next : Nat → List Nat) (uN : List Nat) (sv : Option Addr) (n c : Nat) (w : World) (h : NextAt w bm S I next gN uN) (hn : n ≠ S) :
    Calls Tryz.prog 26 #[.pointer (some ⟨bm, 0, none⟩), .slice sv n c] w fun e w' => e = .returned (.iface 35 (.int .i64 3)) ∧ w' = w := by
  have c4 := h.1
  have pn := fun w a => ptrNe w a
  have hni : ((n : Int) != (S : Int)) = true := by simp; omega
  have hni2 : ¬ (n : Int) = (S : Int) := by omega
  clear h
  go_enter Tryz.func26, Tryz.ntmps26
  go_wp2_with fail
  go_ret
  exact ⟨rfl, rfl⟩
set_option maxHeartbeats 4000000 in
set_option maxRecDepth 100000 in
theorem Stays_bad (pm : Option Addr) (sv : Option Addr) (n c : Nat) (en : Int) (w : World) (hf : ∀ W, Below w.heap.size w W → Calls Tryz.prog 26 #[.pointer pm, .slice sv n c] W fun e w' => e = .returned (.iface 35 (.int .i64 en)) ∧ w' = W) :
    Calls Tryz.prog 12 #[.pointer pm, .slice sv n c] w fun e w' => e = .returned (.tuple #[.slice none 0 0, .iface 35 (.int .i64 en)]) ∧ Below w.heap.size w w' := by
  have HF := hide (hf (w.alloc (.cells #[.pointer pm] 22)) ((Below.refl _ _).alloc (Nat.le_refl _) _))
  have hbe := fun x w => beq_errno x w
  have HBA : Hid (Below w.heap.size w (w.alloc (.cells #[.pointer pm] 22))) := (Below.refl _ _).alloc (Nat.le_refl _) _
  clear hf
  go_enter Tryz.func12, Tryz.ntmps12
  go_wp2_with fail
  refine HF.out.mono ?_
  rintro e w0 ⟨rfl, hw0⟩
  subst hw0
  clear HF
  go_wp2_with fail
  refine bodyPost_ret (results_tmp2 rfl _ _ _) rfl ?_
  exact ⟨rfl, HBA.out⟩
set_option maxHeartbeats 4000000 in
set_option maxRecDepth 100000 in
theorem Comes_bad (pm : Option Addr) (sv : Option Addr) (n c : Nat) (en : Int) (w : World) (hf : ∀ W, Below w.heap.size w W → Calls Tryz.prog 26 #[.pointer pm, .slice sv n c] W fun e w' => e = .returned (.iface 35 (.int .i64 en)) ∧ w' = W) :
    Calls Tryz.prog 13 #[.pointer pm, .slice sv n c] w fun e w' => e = .returned (.tuple #[.slice none 0 0, .iface 35 (.int .i64 en)]) ∧ Below w.heap.size w w' := by
  have HF := hide (hf (w.alloc (.cells #[.pointer pm] 22)) ((Below.refl _ _).alloc (Nat.le_refl _) _))
  have hbe := fun x w => beq_errno x w
  have HBA : Hid (Below w.heap.size w (w.alloc (.cells #[.pointer pm] 22))) := (Below.refl _ _).alloc (Nat.le_refl _) _
  clear hf
  go_enter Tryz.func13, Tryz.ntmps13
  go_wp2_with fail
  refine HF.out.mono ?_
  rintro e w0 ⟨rfl, hw0⟩
  subst hw0
  clear HF
  go_wp2_with fail
  refine bodyPost_ret (results_tmp2 rfl _ _ _) rfl ?_
  exact ⟨rfl, HBA.out⟩
set_option maxHeartbeats 4000000 in
set_option maxRecDepth 100000 in
theorem Forces_bad (pm : Option Addr) (sv : Option Addr) (n c : Nat) (en : Int) (w : World) (hf : ∀ W, Below w.heap.size w W → Calls Tryz.prog 26 #[.pointer pm, .slice sv n c] W fun e w' => e = .returned (.iface 35 (.int .i64 en)) ∧ w' = W) :
    Calls Tryz.prog 14 #[.pointer pm, .slice sv n c] w fun e w' => e = .returned (.tuple #[.slice none 0 0, .iface 35 (.int .i64 en)]) ∧ Below w.heap.size w w' := by
  have HF := hide (hf (w.alloc (.cells #[.pointer pm] 22)) ((Below.refl _ _).alloc (Nat.le_refl _) _))
  have hbe := fun x w => beq_errno x w
  have HBA : Hid (Below w.heap.size w (w.alloc (.cells #[.pointer pm] 22))) := (Below.refl _ _).alloc (Nat.le_refl _) _
  clear hf
  go_enter Tryz.func14, Tryz.ntmps14
  go_wp2_with fail
  refine HF.out.mono ?_
  rintro e w0 ⟨rfl, hw0⟩
  subst hw0
  clear HF
  go_wp2_with fail
  refine bodyPost_ret (results_tmp2 rfl _ _ _) rfl ?_
  exact ⟨rfl, HBA.out⟩
end
section
open Go.RowKit
theorem IsMach.next {W : World} {bm : Nat} {p : Ld.Prg} (h : IsMach W bm p) : ∃ gN uN, NextAt W bm (Mc.total (Mc.parts p)) (2 ^ (Ld.kindL p.names 1).length) (Mc.nexts p) gN uN := by
  obtain ⟨nv, rv, g, gN, gS, lo, uN, uS, h1, ⟨⟨h2, _⟩, h3, _⟩, _⟩ := h
  refine ⟨gN, uN, h1.cells.2.2.1, h2, fun s b hs => ⟨h3.cell s b hs, fun i x hx => ?_⟩⟩
  have hr := (h3.row s b hs).1
  rw [Mc.nexts_row] at hr
  exact hr.cell i _ (by rw [List.getElem?_map, hx]; rfl)
end
section
open Go.RowKit
namespace Rf
theorem ptrNe2 (w : World) (a : Addr) : (binOp BinOp.eql 22 (.pointer (some a)) (.pointer none)).run Tryz.prog w = .ok (.bool false) w := by kernel_rfl
set_option maxHeartbeats 16000000 in
set_option maxRecDepth 100000 in
theorem reachFixed_of (hbo : ∀ (s : ByteArray) (w : World), s.size ≤ maxLen → Laid w → PLaid w → Calls Tryz.prog 17 #[.string s] w (Sl.Both s w)) (s : ByteArray) (l : List Bool) (lv : Value) (w : World) (hs : s.size ≤ maxLen) (hl : BoolsO w lv l) (hlm : l.length ≤ maxLen) (hL : Laid w) (hP : PLaid w) :
    Calls Tryz.prog 4 #[.string s, lv] w fun e w' => e = .returned (.bool true) ∧ Below w.heap.size w w' := by
  have HMS := hide (machines_of hbo s 60 w hs hL hP)
  have HL := hide hL
  have HLI := hide hl
  unfold maxLen at hlm
  obtain ⟨la, lc, rfl⟩ := hl.slice
  obtain ⟨c, hc⟩ : ∃ c, c = l.length := ⟨_, rfl⟩
  have HC := hide hc
  rw [← hc] at HLI hlm ⊢
  clear hL hP hl hc
  go_enter Tryz.func4, Tryz.ntmps4
  go_wp2_with fail
  refine HMS.out.mono ?_
  rintro e w1 ⟨hb1, he⟩
  clear HMS
  rcases he with rfl | ⟨p, bm, bx, rfl, _, hmach, hrm, hck, hok, hq4, hS60⟩
  · have HB1 := hide hb1
    clear hb1
    go_wp2_with fail
    go_ret
    exact ⟨rfl, HB1.out⟩
  · have HB1 := hide hb1
    have pn := fun w a => ptrNe2 w a
    by_cases q1 : 300 < c
    · have q1' : (300 : Int) < (c : Int) := by omega
      clear hb1 hmach hrm
      go_wp2_with fail
      go_ret
      exact ⟨rfl, HB1.out⟩
    have q1' : ¬ (300 : Int) < (c : Int) := by omega
    have q300 : c ≤ 300 := by omega
    clear q1
    obtain ⟨gN, uN, hna⟩ := hmach.next
    obtain ⟨nv3, rv3, nx, us, qb, k1, _, k3⟩ := hrm
    have hrow := k3.rowsI (nextsL_small p hck _ _ hok.2)
    rw [nextsL_map p hck] at hrow
    have hnl := fun s => Mc.nexts_len p s
    have hnx : ∀ f s, f < Mc.total (Mc.parts p) → s ∈ Mc.nexts p f → s < Mc.total (Mc.parts p) := fun f s _ hs => Mc.nexts_lt p hck f s hs
    have hS1 : 1 ≤ Mc.total (Mc.parts p) := Mc.total_pos _ (Mc.parts_ok p)
    have hI16 : 2 ^ (Ld.kindL p.names 1).length ≤ 16 := Nat.pow_le_pow_right (by decide) hq4
    have hI1 : 1 ≤ 2 ^ (Ld.kindL p.names 1).length := Nat.pow_pos (by decide)
    generalize Mc.nexts p = next at *
    generalize Mc.total (Mc.parts p) = S at *
    generalize 2 ^ (Ld.kindL p.names 1).length = I at *
    have HNA := hide hna
    have HXM := hide k1
    have HRW := hide hrow
    have HNL := hide hnl
    have HNX := hide hnx
    have HWX : Hid (∀ W, Below w1.heap.size w1 W → Below w.heap.size w W) := fun W hW => HB1.out.trans (hW.mono HB1.out.size)
    have HLB : Hid (∀ W (e : Int), Below w1.heap.size w1 W → Calls Tryz.prog 10 #[.iface 35 (.int .i64 e), .int .i64 e] W fun e w' => e = .returned (.bool true) ∧ Below W.heap.size W w') := fun W e hW => Sl.lbare_any e W (HL.out.below (HWX.out W hW)).door
    have HFN : Hid (∀ W, Calls Tryz.prog 12 #[.pointer none, .slice la c lc] W fun e w' => e = .returned (.tuple #[.slice none 0 0, .iface 35 (.int .i64 7)]) ∧ Below W.heap.size W w') := fun W => Stays_bad none la c lc 7 W (fun W' _ => fits_nil _ W')
    have HXS : Hid (∀ W, Below w1.heap.size w1 W → W.cell? ⟨bx, 2, none⟩ = some (.int .i64 (S : Int))) := fun W hW => (HXM.out.below hW).cells.2.1.1
    clear hb1 hmach k1 k3 hrow hnl hnx hna hok hck hq4
    by_cases hcS : c = S
    · subst hcS
      have HLS : Hid (l.length = c) := by show _ = _; rw [← HC.out]
      have HSA := hide (StaysO_any bm c I gN next uN _ l w1 HNA.out hS1 (by omega) (by omega) hI1 HNL.out HNX.out (HLI.out.below HB1.out) HLS.out)
      have HCA : Hid (∀ W, Below w1.heap.size w1 W → Calls Tryz.prog 13 #[.pointer (some ⟨bm, 0, none⟩), .slice la c lc] W (Fixed W c (Rc.Some next) l)) := fun W hW => ComesO_any bm c I gN next uN _ l W (HNA.out.below hW) hS1 (by omega) (by omega) hI1 HNL.out HNX.out (HLI.out.below (HWX.out W hW)) HLS.out
      have HFA : Hid (∀ W, Below w1.heap.size w1 W → Calls Tryz.prog 14 #[.pointer (some ⟨bm, 0, none⟩), .slice la c lc] W (Fixed W c (Rc.All next) l)) := fun W hW => ForcesO_any bm c I gN next uN _ l W (HNA.out.below hW) hS1 (by omega) (by omega) hI1 HNL.out HNX.out (HLI.out.below (HWX.out W hW)) HLS.out
      have HFX : Hid (∀ (kd : Nat) (ks : ByteArray) W, Below w1.heap.size w1 W → ((kd = 0 ∧ ks = ⟨#[115, 116, 97, 121, 115]⟩) ∨ (kd = 1 ∧ ks = ⟨#[99, 111, 109, 101, 115]⟩) ∨ (kd = 2 ∧ ks = ⟨#[102, 111, 114, 99, 101, 115]⟩)) → Calls Tryz.prog 16 #[.pointer (some ⟨bx, 0, none⟩), .string ks, .slice la c lc] W (FixedD W kd c next l)) := fun kd ks W hW hk =>
        Fixed_any bx c I _ _ _ next kd ks _ l W (HXM.out.below hW) (HRW.out.below hW) HNL.out HNX.out (by omega) (by omega) (HLI.out.below (HWX.out W hW)) HLS.out hS1 hk
      go_wp2_with fail
      refine HSA.out.mono ?_
      rintro e w2 ⟨ga, ra, rfl, hga, hra, _, hb⟩
      have HB2 : Hid (Below w1.heap.size w1 w2) := hb
      have HRA : Hid (∀ W, Below w2.heap.size w2 W → BRow W ga (Rc.turn ra) []) := fun W hW => hra.below hW
      have HGA := hide hga
      have HC2 := hide (HCA.out w2 HB2.out)
      clear hb hra hga HSA
      go_wp2_with fail
      refine HC2.out.mono ?_
      rintro e w3 ⟨gb, cpb, restb, rb, rfl, hcpb, hgb, hrb, _, hb⟩
      have HB3 : Hid (Below w2.heap.size w2 w3) := hb
      have HRB : Hid (∀ W, Below w3.heap.size w3 W → BRow W gb rb restb) := fun W hW => hrb.below hW
      have HGB := hide hgb
      have HF3 := hide (HFA.out w3 (then_ HB2.out HB3.out))
      clear hb hrb hgb HC2
      go_wp2_with fail
      refine HF3.out.mono ?_
      rintro e w4 ⟨gc, cpc, restc, rc, rfl, hcpc, hgc, hrc, _, hb⟩
      have HB4 : Hid (Below w3.heap.size w3 w4) := hb
      have HRC : Hid (∀ W, Below w4.heap.size w4 W → BRow W gc rc restc) := fun W hW => hrc.below hW
      have HGC := hide hgc
      have HN4 := hide (HFN.out w4)
      have HB14 : Hid (Below w1.heap.size w1 w4) := then_ HB2.out (then_ HB3.out HB4.out)
      clear hb hrc hgc HF3
      go_wp2_with fail
      refine HN4.out.mono ?_
      rintro e w5 ⟨rfl, hb⟩
      have HB5 : Hid (Below w4.heap.size w4 w5) := hb
      have HA5 := hide (HLB.out w5 7 (then_ HB14.out HB5.out))
      clear hb HN4
      go_wp2_with fail
      refine HA5.out.mono ?_
      rintro e w6 ⟨rfl, hb⟩
      have HB6 : Hid (Below w4.heap.size w4 w6) := then_ HB5.out hb
      have c6 := HXS.out w6 (then_ HB14.out HB6.out)
      have HX6 := hide (HFX.out 0 _ w6 (then_ HB14.out HB6.out) (.inl ⟨rfl, rfl⟩))
      clear hb HA5
      go_wp2_with fail
      refine HX6.out.mono ?_
      rintro e w7 ⟨g7, cp7, rest7, r7, rfl, hcp7, hg7, hr7, _, hb⟩
      have HB7 : Hid (Below w4.heap.size w4 w7) := then_ HB6.out hb
      have e7 : r7 = Rc.turn ra := by
        have h := hg7.2
        rw [if_pos rfl] at h
        rw [HGA.out.one h, Rc.turn_turn]
      have hlr : (Rc.turn ra).length = c := by rw [← e7]; exact hg7.1
      have hB1 : Bools w7 (.slice (some ⟨ga, 0, none⟩) c c) (Rc.turn ra) := by have h := (HRA.out w7 (then_ HB3.out (then_ HB4.out HB7.out))).bools (cp := c) (by rw [hlr]; omega); rw [hlr] at h; exact h
      have hB2 : Bools w7 (.slice (some ⟨g7, 0, none⟩) c cp7) (Rc.turn ra) := by rw [e7] at hr7; have h := hr7.bools (cp := cp7) (by rw [hlr]; omega); rw [hlr] at h; exact h
      have HS7 := hide (lsameB_any _ _ _ w7 hB1 hB2)
      clear hb hg7 hr7 e7 hlr hB1 hB2 HX6
      go_wp2_with fail
      refine HS7.out.mono ?_
      rintro e w8 ⟨rfl, hb⟩
      have HB8 : Hid (Below w4.heap.size w4 w8) := then_ HB7.out hb
      have HX8 := hide (HFX.out 1 _ w8 (then_ HB14.out HB8.out) (.inr (.inl ⟨rfl, rfl⟩)))
      clear hb HS7
      go_wp2_with fail
      refine HX8.out.mono ?_
      rintro e w9 ⟨g9, cp9, rest9, r9, rfl, hcp9, hg9, hr9, _, hb⟩
      have HB9 : Hid (Below w4.heap.size w4 w9) := then_ HB8.out hb
      have e9 : r9 = rb := by
        have h := hg9.2
        rw [if_neg (by decide), if_pos rfl] at h
        exact h.one HGB.out
      have hlr : rb.length = c := by rw [← e9]; exact hg9.1
      have hB1 : Bools w9 (.slice (some ⟨gb, 0, none⟩) c cpb) rb := by have h := (HRB.out w9 (then_ HB4.out HB9.out)).bools (cp := cpb) (by rw [hlr]; omega); rw [hlr] at h; exact h
      have hB2 : Bools w9 (.slice (some ⟨g9, 0, none⟩) c cp9) rb := by rw [e9] at hr9; have h := hr9.bools (cp := cp9) (by rw [hlr]; omega); rw [hlr] at h; exact h
      have HS9 := hide (lsameB_any _ _ _ w9 hB1 hB2)
      clear hb hg9 hr9 e9 hlr hB1 hB2 HX8
      go_wp2_with fail
      refine HS9.out.mono ?_
      rintro e w10 ⟨rfl, hb⟩
      have HB10 : Hid (Below w4.heap.size w4 w10) := then_ HB9.out hb
      have HX10 := hide (HFX.out 2 _ w10 (then_ HB14.out HB10.out) (.inr (.inr ⟨rfl, rfl⟩)))
      clear hb HS9
      go_wp2_with fail
      refine HX10.out.mono ?_
      rintro e w11 ⟨g11, cp11, rest11, r11, rfl, hcp11, hg11, hr11, _, hb⟩
      have HB11 : Hid (Below w4.heap.size w4 w11) := then_ HB10.out hb
      have e11 : r11 = rc := by
        have h := hg11.2
        rw [if_neg (by decide), if_neg (by decide)] at h
        exact h.one HGC.out
      have hlr : rc.length = c := by rw [← e11]; exact hg11.1
      have hB1 : Bools w11 (.slice (some ⟨gc, 0, none⟩) c cpc) rc := by have h := (HRC.out w11 HB11.out).bools (cp := cpc) (by rw [hlr]; omega); rw [hlr] at h; exact h
      have hB2 : Bools w11 (.slice (some ⟨g11, 0, none⟩) c cp11) rc := by rw [e11] at hr11; have h := hr11.bools (cp := cp11) (by rw [hlr]; omega); rw [hlr] at h; exact h
      have HS11 := hide (lsameB_any _ _ _ w11 hB1 hB2)
      clear hb hg11 hr11 e11 hlr hB1 hB2 HX10
      go_wp2_with fail
      refine HS11.out.mono ?_
      rintro e w12 ⟨rfl, hb⟩
      have HF := hide (HWX.out w12 (then_ HB14.out (then_ HB11.out hb)))
      clear hb HS11
      go_wp2_with fail
      go_ret
      exact ⟨ret_bool (by first | rfl | simp), HF.out⟩
    · have HFB : Hid (∀ W, Below w1.heap.size w1 W → Calls Tryz.prog 26 #[.pointer (some ⟨bm, 0, none⟩), .slice la c lc] W fun e w' => e = .returned (.iface 35 (.int .i64 3)) ∧ w' = W) := fun W hW => fits_bad bm S I gN next uN la c lc W (HNA.out.below hW) hcS
      have HSA := hide (Stays_bad (some ⟨bm, 0, none⟩) la c lc 3 w1 (fun W hW => HFB.out W hW))
      have HCA : Hid (∀ W, Below w1.heap.size w1 W → Calls Tryz.prog 13 #[.pointer (some ⟨bm, 0, none⟩), .slice la c lc] W fun e w' => e = .returned (.tuple #[.slice none 0 0, .iface 35 (.int .i64 3)]) ∧ Below W.heap.size W w') := fun W hW => Comes_bad (some ⟨bm, 0, none⟩) la c lc 3 W (fun W' hW' => HFB.out W' (then_ hW hW'))
      have HFA : Hid (∀ W, Below w1.heap.size w1 W → Calls Tryz.prog 14 #[.pointer (some ⟨bm, 0, none⟩), .slice la c lc] W fun e w' => e = .returned (.tuple #[.slice none 0 0, .iface 35 (.int .i64 3)]) ∧ Below W.heap.size W w') := fun W hW => Forces_bad (some ⟨bm, 0, none⟩) la c lc 3 W (fun W' hW' => HFB.out W' (then_ hW hW'))
      go_wp2_with fail
      refine HSA.out.mono ?_
      rintro e w2 ⟨rfl, hb⟩
      have HB2 : Hid (Below w1.heap.size w1 w2) := hb
      have HC2 := hide (HCA.out w2 HB2.out)
      clear hb HSA
      go_wp2_with fail
      refine HC2.out.mono ?_
      rintro e w3 ⟨rfl, hb⟩
      have HB3 : Hid (Below w1.heap.size w1 w3) := then_ HB2.out hb
      have HF3 := hide (HFA.out w3 HB3.out)
      clear hb HC2
      go_wp2_with fail
      refine HF3.out.mono ?_
      rintro e w4 ⟨rfl, hb⟩
      have HB4 : Hid (Below w1.heap.size w1 w4) := then_ HB3.out hb
      have HN4 := hide (HFN.out w4)
      clear hb HF3
      go_wp2_with fail
      refine HN4.out.mono ?_
      rintro e w5 ⟨rfl, hb⟩
      have HB5 : Hid (Below w1.heap.size w1 w5) := then_ HB4.out hb
      have HA5 := hide (HLB.out w5 7 HB5.out)
      clear hb HN4
      go_wp2_with fail
      refine HA5.out.mono ?_
      rintro e w6 ⟨rfl, hb⟩
      have HB6 : Hid (Below w1.heap.size w1 w6) := then_ HB5.out hb
      have c6 := HXS.out w6 HB6.out
      have hcSi : ((c : Int) != (S : Int)) = true := by simp; omega
      have hcSe : ¬ (c : Int) = (S : Int) := by omega
      have HA6 := hide (HLB.out w6 3 HB6.out)
      clear hb HA5
      go_wp2_with fail
      refine HA6.out.mono ?_
      rintro e w7 ⟨rfl, hb⟩
      have HB7 : Hid (Below w1.heap.size w1 w7) := then_ HB6.out hb
      have HA7 := hide (HLB.out w7 3 HB7.out)
      clear hb HA6
      go_wp2_with fail
      refine HA7.out.mono ?_
      rintro e w8 ⟨rfl, hb⟩
      have HB8 : Hid (Below w1.heap.size w1 w8) := then_ HB7.out hb
      have HA8 := hide (HLB.out w8 3 HB8.out)
      clear hb HA7
      go_wp2_with fail
      refine HA8.out.mono ?_
      rintro e w9 ⟨rfl, hb⟩
      have HF := hide (HWX.out w9 (then_ HB8.out hb))
      clear hb HA8
      go_wp2_with fail
      go_ret
      exact ⟨ret_bool (by first | rfl | simp), HF.out⟩
end Rf
end
end Go.Proofs.YtkfikffnljnepaaGreatDoor
