/-
  The walks of package reach's Stays, Comes and Forces. What ReachTarski asks, in plain words; lists of bools that are filled in memory. What a round of fill's inner loop lays.
-/
import Derived.Test.YtdmnikbhkpcdpaaGreatDoorRcCloneAll
import Derived.Test.YtdmnikbhkpcdpaaGreatDoorRcGrow
import Derived.Test.YtdmnikbhkpcdpaaGreatDoorMcPlaysAll
namespace Go.Proofs.YtdmnikbhkpcdpaaGreatDoor
section
open Go.RowKit
theorem some_eb (next : Nat → List Nat) (r : List Bool) (s : Nat) : ((next s).any (fun t => r.getD t false)) = true ↔ Rc.Some next (Rc.Has r) s := by
  unfold Rc.Some Rc.Has
  rw [List.any_eq_true]
theorem all_eb (next : Nat → List Nat) (r : List Bool) (s : Nat) : (!(next s).any (fun t => !r.getD t false)) = true ↔ Rc.All next (Rc.Has r) s := by
  unfold Rc.All Rc.Has
  rw [Bool.not_eq_true', List.any_eq_false]
  exact ⟨fun h t ht => by have := h t ht; simpa using this, fun h t ht => by have := h t ht; simpa using this⟩
theorem all_hit (next : Nat → List Nat) (I : Nat) (hI : 1 ≤ I) (hnl : ∀ s, (next s).length = I) (X : Nat → Prop) (s : Nat) (h : Rc.All next X s) : ∃ t, t ∈ next s ∧ X t := by
  have hl : 0 < (next s).length := by rw [hnl]; omega
  exact ⟨(next s)[0], List.getElem_mem hl, h _ (List.getElem_mem hl)⟩
/-- what Stays comes to -/
def Stayed (w : World) (S : Nat) (next : Nat → List Nat) (l : List Bool) (e : Ending) (w' : World) : Prop := ∃ g r, e = .returned (.tuple #[.slice (some ⟨g, 0, none⟩) S S, .nilIface]) ∧ Rc.Grown S (Rc.Some next) (Rc.turn l) r ∧ BRow w' g (Rc.turn r) [] ∧ w.heap.size ≤ g ∧ Below w.heap.size w w'
/-- what Comes and Forces come to -/
def Fixed (w : World) (S : Nat) (E : (Nat → Prop) → Nat → Prop) (l : List Bool) (e : Ending) (w' : World) : Prop := ∃ g cp rest r, e = .returned (.tuple #[.slice (some ⟨g, 0, none⟩) S cp, .nilIface]) ∧ S ≤ cp ∧ Rc.Grown S E l r ∧ BRow w' g r rest ∧ w.heap.size ≤ g ∧ Below w.heap.size w w'
set_option maxHeartbeats 4000000 in
set_option maxRecDepth 100000 in
theorem Stays_any (bm S I gN : Nat) (next : Nat → List Nat) (uN : List Nat) (v : Value) (l : List Bool) (w : World) (h : NextAt w bm S I next gN uN) (hS1 : 1 ≤ S) (hS : S ≤ 4096) (hI : I ≤ 64) (_hI1 : 1 ≤ I) (hnl : ∀ s, (next s).length = I) (hnx : ∀ f s, f < S → s ∈ next f → s < S) (hv : Bools w v l) (hl : l.length = S) :
    Calls Tryz.prog 23 #[.pointer (some ⟨bm, 0, none⟩), v] w (Stayed w S next l) := by
  have hmf : ∀ (fn : Fn) (first cap : Array Value) (w : World), (Instr.makeFunc fn first cap).run Tryz.prog w = .ok (.func fn first cap) w := fun _ _ _ _ => rfl
  have HV := hide hv
  have HNA := hide h
  obtain ⟨wA, hwA⟩ : ∃ wA, wA = w.alloc (.cells #[.pointer (some ⟨bm, 0, none⟩)] 23) := ⟨_, rfl⟩
  have hbA : Below w.heap.size w wA := by rw [hwA]; exact (Below.refl _ _).alloc (Nat.le_refl _) _
  have hsA : wA.heap.size = w.heap.size + 1 := by rw [hwA]; simp
  have hA : wA.heap[w.heap.size]? = some (.cells #[.pointer (some ⟨bm, 0, none⟩)] 23 (0, 0)) := by rw [hwA]; exact heap_alloc_new _ _
  have HF := hide (fits_any bm S I gN next uN v l wA (h.below hbA) (hv.below hbA) hl)
  have HT := hide (turned_any v l wA (hv.below hbA))
  rw [hl] at HT
  obtain ⟨a, c, rfl⟩ := hv.slice
  rw [hl] at HF HT ⊢
  rw [hwA] at HF HT
  have HWA := hide hwA
  have HBA := hide hbA
  have HA := hide hA
  clear hwA hbA hA h hv
  go_enter Tryz.func23, Tryz.ntmps23
  go_wp2_with fail
  refine HF.out.mono ?_
  rintro e w0 ⟨rfl, hw0⟩
  rw [hw0]
  clear HF hw0
  go_wp2_with fail
  refine HT.out.mono ?_
  rintro e w1 ⟨gi, rfl, hrow, hgi, hb1⟩
  rw [← HWA.out] at hgi hb1
  have hz1 := hb1.size
  have hM1 := (hb1.block _ (by omega)).trans HA.out
  have HB1 := hide (HBA.out.trans (hb1.mono HBA.out.size))
  have hg1 := RowIs.lt hrow
  obtain ⟨w2, hw2⟩ : ∃ w2, w2 = w1.alloc (.cells #[.slice (some ⟨gi, 0, none⟩) S S] 45) := ⟨_, rfl⟩
  have hb2 : Below w1.heap.size w1 w2 := by rw [hw2]; exact (Below.refl _ _).alloc (Nat.le_refl _) _
  have hz2 : w2.heap.size = w1.heap.size + 1 := by rw [hw2]; simp
  have hO2 : w2.heap[w1.heap.size]? = some (.cells #[.slice (some ⟨gi, 0, none⟩) S S] 45 (0, 0)) := by rw [hw2]; exact heap_alloc_new _ _
  have hM2 := (hb2.block _ (by omega)).trans hM1
  have HB2 := hide (HB1.out.trans (hb2.mono HB1.out.size))
  have m1 : w1.cell? ⟨w.heap.size, 0, none⟩ = some (.pointer (some ⟨bm, 0, none⟩)) := by rw [Lib.cell_of_heap hM1]; rfl
  have hwl : w.heap.size < w1.heap.size := by omega
  have HBW : Hid (∀ W, w2.grownBy W (some gi) → Below w.heap.size w W) := fun W hW => HB2.out.grown hW HB2.out.size (fun j e => by cases e; omega)
  have HCE : Hid (∀ W, w2.grownBy W (some gi) → W.cell? ⟨w.heap.size, 0, none⟩ = some (.pointer (some ⟨bm, 0, none⟩)) ∧ W.cell? ⟨w1.heap.size, 0, none⟩ = some (.slice (some ⟨gi, 0, none⟩) S S)) := fun W hW =>
    ⟨by rw [Lib.cell_of_heap ((hW.block _ (by omega) (fun e => by cases e; omega)).trans hM2)]; rfl, by rw [Lib.cell_of_heap ((hW.block _ (by omega) (fun e => by cases e; omega)).trans hO2)]; rfl⟩
  have hent : Entering w2 gi S [] (.func (.func 50) #[] #[.pointer (some ⟨w.heap.size, 0, none⟩), .pointer (some ⟨w1.heap.size, 0, none⟩)]) (fun l s => (next s).any (fun t => l.getD t false)) :=
    ⟨_, _, rfl, fun _ _ => by kernel_rfl, fun r s W hW hr hR hs => stays1_any _ _ bm S I gN gi S next uN _ r s W (HCE.out W hW).1 (HCE.out W hW).2 (HNA.out.below (HBW.out W hW)) hS hI hnl hnx hr hR hs⟩
  have HG := hide (grow_any bm S I gN next uN gi S [] (Rc.turn l) _ (Rc.Some next) _ w2 (HNA.out.below HB2.out) hS hI hnl hnx (by rw [Rc.turn_len]; exact hl) (hrow.below hb2) (Nat.le_refl _) hent (Rc.asks_some next) (fun X s _ ⟨t, h1, h2⟩ => ⟨t, h1, h2⟩) (fun r s => some_eb next r s))
  rw [hw2] at HG
  have HW2 := hide hw2
  have hgw : w.heap.size ≤ gi := by omega
  clear hw2 hb2 hO2 hM2 hM1 hrow hb1 hent HT
  go_wp2_with fail
  refine HG.out.mono ?_
  rintro e w3 ⟨rfl, hgr, r, hr, hrow3⟩
  rw [← HW2.out] at hgr
  obtain ⟨_, o3⟩ := HCE.out w3 hgr
  have HB3 := hide (HBW.out w3 hgr)
  have HR := hide hr
  have HR3 := hide hrow3
  have hrl : r.length = S := hr.len
  have HT2 := hide (turned_any _ r w3 (hrow3.bools (cp := S) (by omega)))
  rw [hrl] at HT2
  clear hgr hr hrow3 HG m1
  go_wp2_with fail
  refine HT2.out.mono ?_
  rintro e w4 ⟨g4, rfl, hrow4, hg4, hb4⟩
  have HR4 := hide hrow4
  have HB4 := hide (HB3.out.trans (hb4.mono HB3.out.size))
  have hz4 := HB3.out.size
  clear hrow4 hb4 HT2
  go_wp2_with fail
  refine bodyPost_ret (results_tmp2 rfl _ _ _) rfl ?_
  exact ⟨g4, r, rfl, HR.out, HR4.out, by omega, HB4.out⟩
set_option maxHeartbeats 4000000 in
set_option maxRecDepth 100000 in
theorem Comes_any (bm S I gN : Nat) (next : Nat → List Nat) (uN : List Nat) (v : Value) (l : List Bool) (w : World) (h : NextAt w bm S I next gN uN) (hS1 : 1 ≤ S) (hS : S ≤ 4096) (hI : I ≤ 64) (_hI1 : 1 ≤ I) (hnl : ∀ s, (next s).length = I) (hnx : ∀ f s, f < S → s ∈ next f → s < S) (hv : Bools w v l) (hl : l.length = S) :
    Calls Tryz.prog 24 #[.pointer (some ⟨bm, 0, none⟩), v] w (Fixed w S (Rc.Some next) l) := by
  have hmf : ∀ (fn : Fn) (first cap : Array Value) (w : World), (Instr.makeFunc fn first cap).run Tryz.prog w = .ok (.func fn first cap) w := fun _ _ _ _ => rfl
  have HV := hide hv
  have HNA := hide h
  obtain ⟨wA, hwA⟩ : ∃ wA, wA = w.alloc (.cells #[.pointer (some ⟨bm, 0, none⟩)] 23) := ⟨_, rfl⟩
  have hbA : Below w.heap.size w wA := by rw [hwA]; exact (Below.refl _ _).alloc (Nat.le_refl _) _
  have hsA : wA.heap.size = w.heap.size + 1 := by rw [hwA]; simp
  have hA : wA.heap[w.heap.size]? = some (.cells #[.pointer (some ⟨bm, 0, none⟩)] 23 (0, 0)) := by rw [hwA]; exact heap_alloc_new _ _
  have HF := hide (fits_any bm S I gN next uN v l wA (h.below hbA) (hv.below hbA) hl)
  have HT := hide (cloneB_any l v wA (hv.below hbA) (by omega))
  rw [hl] at HT
  obtain ⟨a, c, rfl⟩ := hv.slice
  rw [hl] at HF HT ⊢
  rw [hwA] at HF HT
  have HWA := hide hwA
  have HBA := hide hbA
  have HA := hide hA
  clear hwA hbA hA h hv
  go_enter Tryz.func24, Tryz.ntmps24
  go_wp2_with fail
  refine HF.out.mono ?_
  rintro e w0 ⟨rfl, hw0⟩
  rw [hw0]
  clear HF hw0
  go_wp2_with fail
  refine HT.out.mono ?_
  rintro e w1 ⟨gi, cp, rest, rfl, hcp, hrow, hgi, hb1⟩
  rw [← HWA.out] at hgi hb1
  have hz1 := hb1.size
  have hM1 := (hb1.block _ (by omega)).trans HA.out
  have HB1 := hide (HBA.out.trans (hb1.mono HBA.out.size))
  have hg1 := RowIs.lt hrow
  obtain ⟨w2, hw2⟩ : ∃ w2, w2 = w1.alloc (.cells #[.slice (some ⟨gi, 0, none⟩) S cp] 45) := ⟨_, rfl⟩
  have hb2 : Below w1.heap.size w1 w2 := by rw [hw2]; exact (Below.refl _ _).alloc (Nat.le_refl _) _
  have hz2 : w2.heap.size = w1.heap.size + 1 := by rw [hw2]; simp
  have hO2 : w2.heap[w1.heap.size]? = some (.cells #[.slice (some ⟨gi, 0, none⟩) S cp] 45 (0, 0)) := by rw [hw2]; exact heap_alloc_new _ _
  have hM2 := (hb2.block _ (by omega)).trans hM1
  have HB2 := hide (HB1.out.trans (hb2.mono HB1.out.size))
  have m1 : w1.cell? ⟨w.heap.size, 0, none⟩ = some (.pointer (some ⟨bm, 0, none⟩)) := by rw [Lib.cell_of_heap hM1]; rfl
  have hwl : w.heap.size < w1.heap.size := by omega
  have HBW : Hid (∀ W, w2.grownBy W (some gi) → Below w.heap.size w W) := fun W hW => HB2.out.grown hW HB2.out.size (fun j e => by cases e; omega)
  have HCE : Hid (∀ W, w2.grownBy W (some gi) → W.cell? ⟨w.heap.size, 0, none⟩ = some (.pointer (some ⟨bm, 0, none⟩)) ∧ W.cell? ⟨w1.heap.size, 0, none⟩ = some (.slice (some ⟨gi, 0, none⟩) S cp)) := fun W hW =>
    ⟨by rw [Lib.cell_of_heap ((hW.block _ (by omega) (fun e => by cases e; omega)).trans hM2)]; rfl, by rw [Lib.cell_of_heap ((hW.block _ (by omega) (fun e => by cases e; omega)).trans hO2)]; rfl⟩
  have hent : Entering w2 gi S rest (.func (.func 54) #[] #[.pointer (some ⟨w.heap.size, 0, none⟩), .pointer (some ⟨w1.heap.size, 0, none⟩)]) (fun l s => (next s).any (fun t => l.getD t false)) :=
    ⟨_, _, rfl, fun _ _ => by kernel_rfl, fun r s W hW hr hR hs => comes1_any _ _ bm S I gN gi cp next uN _ r s W (HCE.out W hW).1 (HCE.out W hW).2 (HNA.out.below (HBW.out W hW)) hS hI hnl hnx hr hR hs⟩
  have HG := hide (grow_any bm S I gN next uN gi cp rest l _ (Rc.Some next) _ w2 (HNA.out.below HB2.out) hS hI hnl hnx hl (hrow.below hb2) hcp hent (Rc.asks_some next) (fun X s _ ⟨t, h1, h2⟩ => ⟨t, h1, h2⟩) (fun r s => some_eb next r s))
  rw [hw2] at HG
  have HW2 := hide hw2
  have hgw : w.heap.size ≤ gi := by omega
  clear hw2 hb2 hO2 hM2 hM1 hrow hb1 hent HT
  go_wp2_with fail
  refine HG.out.mono ?_
  rintro e w3 ⟨rfl, hgr, r, hr, hrow3⟩
  rw [← HW2.out] at hgr
  obtain ⟨_, o3⟩ := HCE.out w3 hgr
  have HB3 := hide (HBW.out w3 hgr)
  have HR := hide hr
  have HR3 := hide hrow3
  have hrl : r.length = S := hr.len
  clear hgr hr hrow3 HG m1
  go_wp2_with fail
  refine bodyPost_ret (results_tmp2 rfl _ _ _) rfl ?_
  exact ⟨gi, cp, rest, r, rfl, hcp, HR.out, HR3.out, hgw, HB3.out⟩
set_option maxHeartbeats 4000000 in
set_option maxRecDepth 100000 in
theorem Forces_any (bm S I gN : Nat) (next : Nat → List Nat) (uN : List Nat) (v : Value) (l : List Bool) (w : World) (h : NextAt w bm S I next gN uN) (hS1 : 1 ≤ S) (hS : S ≤ 4096) (hI : I ≤ 64) (hI1 : 1 ≤ I) (hnl : ∀ s, (next s).length = I) (hnx : ∀ f s, f < S → s ∈ next f → s < S) (hv : Bools w v l) (hl : l.length = S) :
    Calls Tryz.prog 25 #[.pointer (some ⟨bm, 0, none⟩), v] w (Fixed w S (Rc.All next) l) := by
  have hmf : ∀ (fn : Fn) (first cap : Array Value) (w : World), (Instr.makeFunc fn first cap).run Tryz.prog w = .ok (.func fn first cap) w := fun _ _ _ _ => rfl
  have HV := hide hv
  have HNA := hide h
  obtain ⟨wA, hwA⟩ : ∃ wA, wA = w.alloc (.cells #[.pointer (some ⟨bm, 0, none⟩)] 23) := ⟨_, rfl⟩
  have hbA : Below w.heap.size w wA := by rw [hwA]; exact (Below.refl _ _).alloc (Nat.le_refl _) _
  have hsA : wA.heap.size = w.heap.size + 1 := by rw [hwA]; simp
  have hA : wA.heap[w.heap.size]? = some (.cells #[.pointer (some ⟨bm, 0, none⟩)] 23 (0, 0)) := by rw [hwA]; exact heap_alloc_new _ _
  have HF := hide (fits_any bm S I gN next uN v l wA (h.below hbA) (hv.below hbA) hl)
  have HT := hide (cloneB_any l v wA (hv.below hbA) (by omega))
  rw [hl] at HT
  obtain ⟨a, c, rfl⟩ := hv.slice
  rw [hl] at HF HT ⊢
  rw [hwA] at HF HT
  have HWA := hide hwA
  have HBA := hide hbA
  have HA := hide hA
  clear hwA hbA hA h hv
  go_enter Tryz.func25, Tryz.ntmps25
  go_wp2_with fail
  refine HF.out.mono ?_
  rintro e w0 ⟨rfl, hw0⟩
  rw [hw0]
  clear HF hw0
  go_wp2_with fail
  refine HT.out.mono ?_
  rintro e w1 ⟨gi, cp, rest, rfl, hcp, hrow, hgi, hb1⟩
  rw [← HWA.out] at hgi hb1
  have hz1 := hb1.size
  have hM1 := (hb1.block _ (by omega)).trans HA.out
  have HB1 := hide (HBA.out.trans (hb1.mono HBA.out.size))
  have hg1 := RowIs.lt hrow
  obtain ⟨w2, hw2⟩ : ∃ w2, w2 = w1.alloc (.cells #[.slice (some ⟨gi, 0, none⟩) S cp] 45) := ⟨_, rfl⟩
  have hb2 : Below w1.heap.size w1 w2 := by rw [hw2]; exact (Below.refl _ _).alloc (Nat.le_refl _) _
  have hz2 : w2.heap.size = w1.heap.size + 1 := by rw [hw2]; simp
  have hO2 : w2.heap[w1.heap.size]? = some (.cells #[.slice (some ⟨gi, 0, none⟩) S cp] 45 (0, 0)) := by rw [hw2]; exact heap_alloc_new _ _
  have hM2 := (hb2.block _ (by omega)).trans hM1
  have HB2 := hide (HB1.out.trans (hb2.mono HB1.out.size))
  have m1 : w1.cell? ⟨w.heap.size, 0, none⟩ = some (.pointer (some ⟨bm, 0, none⟩)) := by rw [Lib.cell_of_heap hM1]; rfl
  have hwl : w.heap.size < w1.heap.size := by omega
  have HBW : Hid (∀ W, w2.grownBy W (some gi) → Below w.heap.size w W) := fun W hW => HB2.out.grown hW HB2.out.size (fun j e => by cases e; omega)
  have HCE : Hid (∀ W, w2.grownBy W (some gi) → W.cell? ⟨w.heap.size, 0, none⟩ = some (.pointer (some ⟨bm, 0, none⟩)) ∧ W.cell? ⟨w1.heap.size, 0, none⟩ = some (.slice (some ⟨gi, 0, none⟩) S cp)) := fun W hW =>
    ⟨by rw [Lib.cell_of_heap ((hW.block _ (by omega) (fun e => by cases e; omega)).trans hM2)]; rfl, by rw [Lib.cell_of_heap ((hW.block _ (by omega) (fun e => by cases e; omega)).trans hO2)]; rfl⟩
  have hent : Entering w2 gi S rest (.func (.func 55) #[] #[.pointer (some ⟨w.heap.size, 0, none⟩), .pointer (some ⟨w1.heap.size, 0, none⟩)]) (fun l s => !(next s).any (fun t => !l.getD t false)) :=
    ⟨_, _, rfl, fun _ _ => by kernel_rfl, fun r s W hW hr hR hs => forces1_any _ _ bm S I gN gi cp next uN _ r s W (HCE.out W hW).1 (HCE.out W hW).2 (HNA.out.below (HBW.out W hW)) hS hI hnl hnx hr hR hs⟩
  have HG := hide (grow_any bm S I gN next uN gi cp rest l _ (Rc.All next) _ w2 (HNA.out.below HB2.out) hS hI hnl hnx hl (hrow.below hb2) hcp hent (Rc.asks_all next) (fun X s hs he => all_hit next I hI1 hnl X s he) (fun r s => all_eb next r s))
  rw [hw2] at HG
  have HW2 := hide hw2
  have hgw : w.heap.size ≤ gi := by omega
  clear hw2 hb2 hO2 hM2 hM1 hrow hb1 hent HT
  go_wp2_with fail
  refine HG.out.mono ?_
  rintro e w3 ⟨rfl, hgr, r, hr, hrow3⟩
  rw [← HW2.out] at hgr
  obtain ⟨_, o3⟩ := HCE.out w3 hgr
  have HB3 := hide (HBW.out w3 hgr)
  have HR := hide hr
  have HR3 := hide hrow3
  have hrl : r.length = S := hr.len
  clear hgr hr hrow3 HG m1
  go_wp2_with fail
  refine bodyPost_ret (results_tmp2 rfl _ _ _) rfl ?_
  exact ⟨gi, cp, rest, r, rfl, hcp, HR.out, HR3.out, hgw, HB3.out⟩
end
section
open Go.RowKit
namespace Rc
def inL (l : List Bool) (S : Nat) : List Bool := (List.range S).map fun s => l.getD s false
theorem inL_len (l : List Bool) (S : Nat) : (inL l S).length = S := by simp [inL]
theorem inL_at (l : List Bool) (S k : Nat) (hk : k < S) : (inL l S)[k]? = some (l.getD k false) := by simp [inL, hk]
/-- the first k of a list, the others false -/
def inTo (l : List Bool) (k : Nat) : List Bool := l.take k ++ List.replicate (l.length - k) false
theorem inTo_len (l : List Bool) (k : Nat) (hk : k ≤ l.length) : (inTo l k).length = l.length := by simp [inTo]; omega
theorem inTo_zero (l : List Bool) : inTo l 0 = List.replicate l.length false := by simp [inTo]
theorem inTo_all (l : List Bool) : inTo l l.length = l := by simp [inTo]
theorem inTo_set (l : List Bool) (k : Nat) (hk : k < l.length) (x : Bool) (hx : l[k]? = some x) : (inTo l k).set k x = inTo l (k + 1) := by
  have h := fill_set (l.take k) false x l.length (by rw [List.length_take]; omega)
  have e : (l.take k).length = k := by rw [List.length_take]; omega
  rw [e] at h
  unfold inTo
  rw [h]
  obtain ⟨_, e2⟩ := List.getElem?_eq_some_iff.1 hx
  rw [List.take_succ_eq_append_getElem hk, e2]
  congr 2
  simp
  omega
theorem inTo_at (l : List Bool) (k : Nat) (hk : k < l.length) : (inTo l k)[k]? = some false := by
  unfold inTo
  rw [List.getElem?_append_right (by rw [List.length_take]; omega), List.getElem?_replicate, if_pos (by rw [List.length_take]; omega)]
/-- of the first k states: all that are come to are in -/
def allTo (q : Qu) (l : List Bool) (k : Nat) : Bool := (List.range k).all fun s => decide ((q.at_ s).far < 0) || l.getD s false
theorem allTo_succ (q : Qu) (l : List Bool) (k : Nat) : allTo q l (k + 1) = (allTo q l k && (decide ((q.at_ k).far < 0) || l.getD k false)) := by
  unfold allTo
  rw [List.range_succ, List.all_append]
  simp
theorem allTo_end {S : Nat} {next : Nat → List Nat} {q : Qu} {l c : List Bool} (hS : 1 ≤ S) (hq : Far next S q) (hl : l.length = S) (hc : Grown S (Some next) (turn l) c) : allTo q l S = !c.getD 0 false := by
  have h := comes_zero hS hq hc
  have hb : (allTo q l S = true) ↔ ¬ Has c 0 := by
    rw [h]
    unfold allTo
    rw [List.all_eq_true]
    constructor
    · rintro ha ⟨s, hs, hf, hx⟩
      have h1 := ha s (List.mem_range.2 hs)
      unfold Has at hx
      rw [turn_at l s (by omega)] at hx
      have h2 : ¬ (q.at_ s).far < 0 := by omega
      rw [decide_eq_false h2, Bool.false_or] at h1
      rw [h1] at hx
      cases hx
    · intro hn s hs
      have hsS := List.mem_range.1 hs
      by_cases hf : (q.at_ s).far < 0
      · rw [decide_eq_true hf]; rfl
      · rw [decide_eq_false hf, Bool.false_or]
        refine Classical.byContradiction fun hx => hn ⟨s, hsS, by omega, ?_⟩
        unfold Has
        rw [turn_at l s (by omega)]
        simpa using hx
  unfold Has at hb
  cases h1 : allTo q l S <;> cases h2 : c.getD 0 false <;> simp_all
end Rc
/-- two rows of bools that a call has made -/
structure InOut (w : World) (S a b : Nat) (li lo : List Bool) (W : World) : Prop where
  ne : a ≠ b
  ra : BRow W a li []
  rb : BRow W b lo []
  la : w.heap.size ≤ a
  lb : w.heap.size ≤ b
  bel : Below w.heap.size w W
theorem InOut.made (w : World) (S : Nat) (cS : List Value) (hc : cS = List.replicate S (.bool false)) (li lo : List Bool) (h1 : li.length = S) (h2 : lo.length = S) (a b : Nat) (hab : (a = w.heap.size ∧ b = w.heap.size + 1) ∨ (a = w.heap.size + 1 ∧ b = w.heap.size)) (n : Nat) : InOut w S a b (Rc.inTo li 0) (Rc.inTo lo 0) (((w.alloc (.cells ⟨cS⟩ 4)).alloc (.cells ⟨cS⟩ 4)).drewN n) := by
  have e : ∀ l : List Bool, l.length = S → (Rc.inTo l 0).map boolV ++ [] = cS := fun l hl => by rw [Rc.inTo_zero, hl, hc, List.append_nil, List.map_replicate]; rfl
  have r1 : RowIs ((w.alloc (.cells ⟨cS⟩ 4)).alloc (.cells ⟨cS⟩ 4)) w.heap.size 4 cS := (RowIs.new w 4 cS).alloc _
  have r2 : RowIs ((w.alloc (.cells ⟨cS⟩ 4)).alloc (.cells ⟨cS⟩ 4)) (w.heap.size + 1) 4 cS := by
    have := RowIs.new (w.alloc (.cells ⟨cS⟩ 4)) 4 cS
    rw [World.size_alloc] at this
    exact this
  have hb : Below w.heap.size w ((w.alloc (.cells ⟨cS⟩ 4)).alloc (.cells ⟨cS⟩ 4)) := ((Below.refl _ w).alloc (Nat.le_refl _) _).alloc (by simp) _
  have hd : Below w.heap.size w (((w.alloc (.cells ⟨cS⟩ 4)).alloc (.cells ⟨cS⟩ 4)).drewN n) := ⟨hb.os, hb.tape, hb.output, hb.size, hb.block⟩
  rcases hab with ⟨rfl, rfl⟩ | ⟨rfl, rfl⟩
  · exact ⟨by omega, by unfold BRow; rw [e li h1]; exact r1, by unfold BRow; rw [e lo h2]; exact r2, Nat.le_refl _, by omega, hd⟩
  · exact ⟨by omega, by unfold BRow; rw [e li h1]; exact r2, by unfold BRow; rw [e lo h2]; exact r1, by omega, Nat.le_refl _, hd⟩
theorem InOut.put {w W : World} {S a b k : Nat} {li lo : List Bool} {x y : Bool} (h : InOut w S a b (Rc.inTo li k) (Rc.inTo lo k) W) (hl : li.length = S) (hl2 : lo.length = S) (hk : k < S) (hx : li[k]? = some x) (hy : lo[k]? = some y) : InOut w S a b (Rc.inTo li (k + 1)) (Rc.inTo lo (k + 1)) ((W.setCell ⟨a, k, none⟩ (.bool x)).setCell ⟨b, k, none⟩ (.bool y)) := by
  have h1 := h.ra.set k x (by rw [Rc.inTo_len li k (by omega)]; omega)
  rw [Rc.inTo_set li k (by omega) x hx] at h1
  have hb2 : BRow (W.setCell ⟨a, k, none⟩ (.bool x)) b (Rc.inTo lo k) [] := RowIs.other h.rb a k _ (fun e => h.ne e.symm)
  have h2 := hb2.set k y (by rw [Rc.inTo_len lo k (by omega)]; omega)
  rw [Rc.inTo_set lo k (by omega) y hy] at h2
  refine ⟨h.ne, RowIs.other h1 b k _ h.ne, h2, h.la, h.lb, ?_⟩
  exact (h.bel.setCell (p := ⟨a, k, none⟩) h.la _).setCell (p := ⟨b, k, none⟩) h.lb _
/-- a slice of bools that came in -/
def BoolsO (w : World) (v : Value) (l : List Bool) : Prop :=
  (l = [] ∧ ∃ a cap, v = .slice a 0 cap) ∨ ∃ g o cap, v = .slice (some ⟨g, o, none⟩) l.length cap ∧ l.length ≤ cap ∧ ∀ (k : Nat) x, l[k]? = some x → w.cell? ⟨g, o + k, none⟩ = some (.bool x)
theorem BoolsO.below {w w' : World} {v : Value} {l : List Bool} (h : BoolsO w v l) (hb : Below w.heap.size w w') : BoolsO w' v l := by
  rcases h with h | ⟨g, o, cap, h1, h2, h3⟩
  · exact .inl h
  · exact .inr ⟨g, o, cap, h1, h2, fun k x hk => (hb.cell (World.block_lt_of_cell? _ _ (h3 k x hk))).trans (h3 k x hk)⟩
theorem BoolsO.slice {w : World} {v : Value} {l : List Bool} (h : BoolsO w v l) : ∃ a c, v = .slice a l.length c := by
  rcases h with ⟨rfl, a, c, rfl⟩ | ⟨g, o, cap, rfl, _⟩
  · exact ⟨a, c, rfl⟩
  · exact ⟨_, _, rfl⟩
theorem BoolsO.cell {w : World} {a : Option Addr} {n c : Nat} {l : List Bool} (h : BoolsO w (.slice a n c) l) (k : Nat) (x : Bool) (hx : l[k]? = some x) : ∃ g o, a = some ⟨g, o, none⟩ ∧ w.cell? ⟨g, o + k, none⟩ = some (.bool x) := by
  rcases h with ⟨h0, _⟩ | ⟨g, o, cap, h1, h2, h3⟩
  · rw [h0] at hx; simp at hx
  · simp only [Value.slice.injEq] at h1
    exact ⟨g, o, h1.1, h3 k x hx⟩
end
section
open Go.RowKit
/-- the state that Do has made lies behind a pointer -/
def D7 (V : World) (n : Nat) (st : Sc.St) (t7 : Value) (W : World) : Prop := ∃ b7 gi gc, t7 = .pointer (some ⟨b7, 0, none⟩) ∧ W.heap[b7]? = some (.cells #[.slice (some ⟨gi, 0, none⟩) n n, .slice (some ⟨gc, 0, none⟩) n n] 50 (0, 0)) ∧ StAt W gi gc st ∧ (V.heap.size ≤ b7 ∧ V.heap.size ≤ gi ∧ V.heap.size ≤ gc) ∧ Below V.heap.size V W
theorem d7_a {V W : World} {n gi gc : Nat} {st : Sc.St} (hs : StAt W gi gc st) (hb : Below V.heap.size V W) (h1 : V.heap.size ≤ gi) (h2 : V.heap.size ≤ gc) : D7 V n st (.pointer (some ⟨W.heap.size, 0, none⟩)) (W.alloc (.cells #[.slice (some ⟨gi, 0, none⟩) n n, .slice (some ⟨gc, 0, none⟩) n n] 50)) :=
  ⟨_, gi, gc, rfl, heap_alloc_new _ _, hs.kept (Below.heap_alloc _ _ _ hs.lt.1) (Below.heap_alloc _ _ _ hs.lt.2), ⟨hb.size, h1, h2⟩, hb.alloc hb.size _⟩
theorem d7_b {V W : World} {n gi gc : Nat} {st : Sc.St} (ht : W.heap[V.heap.size]? = some (.cells #[.slice none 0 0, .slice none 0 0] 50 (0, 0))) (hs : StAt W gi gc st) (hb : Below V.heap.size V W) (h1 : V.heap.size < gi) (h2 : V.heap.size < gc) : D7 V n st (.pointer (some ⟨V.heap.size, 0, none⟩)) ((W.setCell ⟨V.heap.size, 0, none⟩ (.slice (some ⟨gi, 0, none⟩) n n)).setCell ⟨V.heap.size, 1, none⟩ (.slice (some ⟨gc, 0, none⟩) n n)) :=
  ⟨_, gi, gc, rfl, by simp [World.setCell, Array.getElem?_modify, ht], hs.kept (by rw [Below.heap_setCell _ _ _ _ (by dsimp only; omega), Below.heap_setCell _ _ _ _ (by dsimp only; omega)]) (by rw [Below.heap_setCell _ _ _ _ (by dsimp only; omega), Below.heap_setCell _ _ _ _ (by dsimp only; omega)]), ⟨Nat.le_refl _, by omega, by omega⟩, Below.setCell (Below.setCell hb (Nat.le_refl _) _) (Nat.le_refl _) _⟩
/-- a round is done -/
def D8 (V0 : World) (gN gS S I a b s : Nat) (cN cS rN rS : List Value) (V : World) (i : Nat) (W : World) : Prop := Fi V0 gN gS S I a b s cN cS rN rS W (i + 1) ∧ V.heap.size ≤ W.heap.size ∧ ∀ j, j < V.heap.size → j ≠ a → j ≠ b → W.heap[j]? = V.heap[j]?
theorem d8_ab {V0 V W : World} {gN gS S I a b s i : Nat} {cN cS rN rS : List Value} {x y : Value} (h : Fi V0 gN gS S I a b s cN cS rN rS V i) (hb : Below V.heap.size V W) (hi : i < I) (hNl : rN.length = I) (hSl : rS.length = I) (hx : rN[i]? = some x) (hy : rS[i]? = some y) (hgN : gN < V0.heap.size) (hgS : gS < V0.heap.size) :
    D8 V0 gN gS S I a b s cN cS rN rS V i ((W.setCell ⟨a, i, none⟩ x).setCell ⟨b, i, none⟩ y) := by
  refine ⟨(h.below hb).put hi hNl hSl hx hy hgN hgS (fun _ _ => rfl) (by simp [World.setCell]) ⟨rfl, rfl, rfl⟩, by have := hb.size; simpa [World.setCell] using this, fun j hj h1 h2 => ?_⟩
  rw [Below.heap_setCell _ _ _ _ (fun e => h2 e), Below.heap_setCell _ _ _ _ (fun e => h1 e)]
  exact hb.block j hj
theorem d8_ba {V0 V W : World} {gN gS S I a b s i : Nat} {cN cS rN rS : List Value} {x y : Value} (h : Fi V0 gN gS S I a b s cN cS rN rS V i) (hb : Below V.heap.size V W) (hi : i < I) (hNl : rN.length = I) (hSl : rS.length = I) (hx : rN[i]? = some x) (hy : rS[i]? = some y) (hgN : gN < V0.heap.size) (hgS : gS < V0.heap.size) :
    D8 V0 gN gS S I a b s cN cS rN rS V i ((W.setCell ⟨b, i, none⟩ y).setCell ⟨a, i, none⟩ x) := by
  have hab := h.ln.2.2
  refine ⟨(h.below hb).put hi hNl hSl hx hy hgN hgS (fun k _ => ?_) (by simp [World.setCell]) ⟨rfl, rfl, rfl⟩, by have := hb.size; simpa [World.setCell] using this, fun j hj h1 h2 => ?_⟩
  · by_cases ha : k = a
    · subst ha
      rw [Below.heap_setCell (W.setCell ⟨k, i, none⟩ x) _ _ _ (by dsimp only; exact hab)]
      exact setCell_congr _ _ (Below.heap_setCell _ _ _ _ (by dsimp only; exact hab))
    · rw [Below.heap_setCell (W.setCell ⟨b, i, none⟩ y) _ _ _ (fun e => ha e)]
      exact setCell_congr _ _ (Below.heap_setCell _ _ _ _ (fun e => ha e)).symm
  · rw [Below.heap_setCell _ _ _ _ (fun e => h1 e), Below.heap_setCell _ _ _ _ (fun e => h2 e)]
    exact hb.block j hj
theorem Fi.cells {V W : World} {gN gS S I a b s i : Nat} {cN cS rN rS : List Value} (h : Fi V gN gS S I a b s cN cS rN rS W i) (hs : s < cN.length) (hs2 : s < cS.length) (hi : i < I) (hNl : rN.length = I) (hSl : rS.length = I) :
    W.cell? ⟨gN, s, none⟩ = some (slV a I) ∧ W.cell? ⟨gS, s, none⟩ = some (slV b I) ∧ (W.cell? ⟨a, i, none⟩ = some (.int .i64 0) ∧ W.frozen? ⟨a, i, none⟩ = false) ∧ W.cell? ⟨b, i, none⟩ = some (.int .i64 0) ∧ W.frozen? ⟨b, i, none⟩ = false := by
  have hr : ∀ (r : List Value), r.length = I → (r.take i ++ List.replicate (I - i) (Value.int .i64 0))[i]? = some (.int .i64 0) := fun r hl => by
    have h1 : (r.take i).length = i := by rw [List.length_take]; omega
    rw [List.getElem?_append_right (by omega), h1, Nat.sub_self, List.getElem?_replicate, if_pos (by omega)]
  exact ⟨h.tN.cell s _ (List.getElem?_set_self hs), h.tS.cell s _ (List.getElem?_set_self hs2), ⟨h.lN.cell i _ (hr rN hNl), h.lN.frozen i⟩, h.lS.cell i _ (hr rS hSl), h.lS.frozen i⟩
theorem RowIs.len_of {W : World} {g i : Nat} {t : TypeId} {l : List Value} {v : Value} (h : RowIs W g t l) (hc : W.cell? ⟨g, i, none⟩ = some v) : i < l.length := by
  rw [Lib.cell_of_heap h] at hc
  exact (Array.getElem?_eq_some_iff.1 hc).1
/-- the cells that a round of the inner loop reads -/
def K7 (bm g n gN gS S s a b I b7 gi gc : Nat) (W : World) : Prop := W.cell? ⟨bm, 4, none⟩ = some (.slice (some ⟨gN, 0, none⟩) S S) ∧ W.cell? ⟨bm, 6, none⟩ = some (.slice (some ⟨gS, 0, none⟩) S S) ∧ W.cell? ⟨bm, 5, none⟩ = some (.slice (some ⟨g, 0, none⟩) n n) ∧ W.cell? ⟨gN, s, none⟩ = some (.slice (some ⟨a, 0, none⟩) I I) ∧ W.cell? ⟨gS, s, none⟩ = some (.slice (some ⟨b, 0, none⟩) I I) ∧ W.cell? ⟨b7, 0, none⟩ = some (.slice (some ⟨gi, 0, none⟩) n n) ∧ W.cell? ⟨b7, 1, none⟩ = some (.slice (some ⟨gc, 0, none⟩) n n)
theorem K7.below {bm g n gN gS S s a b I b7 gi gc : Nat} {V W : World} (h : K7 bm g n gN gS S s a b I b7 gi gc V) (hb : Below V.heap.size V W) : K7 bm g n gN gS S s a b I b7 gi gc W := by
  have key : ∀ (p : Addr) v, V.cell? p = some v → W.cell? p = some v := fun p v hv => (hb.cell (World.block_lt_of_cell? _ _ hv)).trans hv
  exact ⟨key _ _ h.1, key _ _ h.2.1, key _ _ h.2.2.1, key _ _ h.2.2.2.1, key _ _ h.2.2.2.2.1, key _ _ h.2.2.2.2.2.1, key _ _ h.2.2.2.2.2.2⟩
theorem K7.set {bm g n gN gS S s a b I b7 gi gc : Nat} {W : World} (c j : Nat) (x : Value) (e1 : bm ≠ c) (e2 : gN ≠ c) (e3 : gS ≠ c) (e4 : b7 ≠ c) (h : K7 bm g n gN gS S s a b I b7 gi gc W) : K7 bm g n gN gS S s a b I b7 gi gc (W.setCell ⟨c, j, none⟩ x) :=
  ⟨cell_set_blk _ _ _ _ _ _ _ e1 h.1, cell_set_blk _ _ _ _ _ _ _ e1 h.2.1, cell_set_blk _ _ _ _ _ _ _ e1 h.2.2.1, cell_set_blk _ _ _ _ _ _ _ e2 h.2.2.2.1, cell_set_blk _ _ _ _ _ _ _ e3 h.2.2.2.2.1, cell_set_blk _ _ _ _ _ _ _ e4 h.2.2.2.2.2.1, cell_set_blk _ _ _ _ _ _ _ e4 h.2.2.2.2.2.2⟩
/-- what fill has done -/
def Filled (w : World) (bm : Nat) (p : Ld.Prg) (nv rv : Value) (g S I q : Nat) (e : Ending) (w' : World) : Prop := e = .returned (.tuple #[]) ∧ ∃ gN gS lo uN uS, MachAt w' bm nv rv S I (slV gN S) (slV g p.names.length) (slV gS S) ∧ ((uN.length = S ∧ uS.length = S) ∧ LL w' gN 22 3 S I lo uN (Mc.nextRow p q I) ∧ LL w' gS 22 3 S I lo uS (Mc.seesRow p q I)) ∧ (IsPrg w' p (.agg #[nv, rv]) ∧ RowIs w' g 149 ((Mc.parts p).flatMap ptCells)) ∧ (∀ k, k < w.heap.size → k ≠ bm → w'.heap[k]? = w.heap[k]?) ∧ w.heap.size ≤ w'.heap.size ∧ w'.os = w.os ∧ w'.tape = w.tape ∧ w'.output = w.output
theorem filled_of {w wr wc W : World} {bm : Nat} {p : Ld.Prg} {nv rv : Value} {g gN gS gI S I q lo : Nat} {us : List Nat} (hB : Below w.heap.size w wr) (hm : Made2 wr bm nv rv (slV g p.names.length) S I gN gS wc) (hf : Fl wc gN gS S I p q W S) (hs : Std bm p nv rv g gN gS gI S I q lo us W) : Filled w bm p nv rv g S I q (.returned (.tuple #[])) W := by
  obtain ⟨uN, uS, h1, h2, h3⟩ := hf.tabs
  obtain ⟨n1, n2, _⟩ := hm.ln
  have hz := hB.size
  have hz2 := hm.size
  have hz3 := hf.size
  exact ⟨rfl, gN, gS, _, uN, uS, hs.mach, ⟨h1, h2, h3⟩, ⟨hs.prg, hs.row⟩, fun k hk hne => (hf.old k (by omega) (by omega) (by omega)).trans ((hm.old k (by omega) hne).trans (hB.block k hk)), by omega, hf.os.1.trans (hm.os.1.trans hB.os), hf.os.2.1.trans (hm.os.2.1.trans hB.tape), hf.os.2.2.trans (hm.os.2.2.trans hB.output)⟩
end
end Go.Proofs.YtdmnikbhkpcdpaaGreatDoor
