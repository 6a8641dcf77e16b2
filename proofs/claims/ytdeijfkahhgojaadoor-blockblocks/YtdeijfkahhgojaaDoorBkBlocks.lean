/-
  The walks of package block's leadAlike and blocks.
-/
import Derived.Test.YtdeijfkahhgojaaDoorBkAlike
namespace Go.Proofs.YtdeijfkahhgojaaDoor
namespace Bk
open Go.RowKit
theorem lead_pairs (t : Tb) (of : List Nat) (a b : Nat) : lead t of a b = (sameB of a b && pairsB t.k (sameB of) (t.nx a) (t.nx b)) := rfl
set_option maxHeartbeats 4000000 in
set_option maxRecDepth 100000 in
theorem lead2_any (N T : List (List Int)) (a b bT bI : Nat) (nv tv fI : Value) (of : List Nat) (w : World) (hG : Good N T) (hN : Rows w nv N) (ht : Tab w bT nv tv) (hI : w.cell? ⟨bI, 0, none⟩ = some fI) (hf : PPred w fI N.length (sameB of)) (hc : ∃ K c, fI = .func (.func K) #[] #[c]) (ha : a < N.length) (hb : b < N.length) :
    Calls Tryd.prog 42 #[.int .i64 (a : Int), .int .i64 (b : Int), .pointer (some ⟨bI, 0, none⟩), .pointer (some ⟨bT, 0, none⟩)] w fun e w' => e = .returned (.bool (lead (tab N T) of a b)) ∧ Below w.heap.size w w' := by
  obtain ⟨na, nc, rfl⟩ := hN.slice
  obtain ⟨g, o, rfl, u1, d1, c1, i1⟩ := hN.cell a _ (List.getElem?_eq_getElem ha)
  obtain ⟨g', o', e', u2, d2, c2, i2⟩ := hN.cell b _ (List.getElem?_eq_getElem hb)
  simp only [Option.some.injEq, Addr.mk.injEq, and_true] at e'
  obtain ⟨rfl, rfl⟩ := e'
  have eA : N.getD a [] = N[a] := getD_in _ _ _ ha
  have eB : N.getD b [] = N[b] := getD_in _ _ _ hb
  have lA : N[a].length = (tab N T).k := by rw [← eA]; exact (hG.rows a ha).1
  have lB : N[b].length = (tab N T).k := by rw [← eB]; exact (hG.rows b hb).1
  have hok := hG.ok
  obtain ⟨K, c, rfl⟩ := hc
  obtain ⟨K2, cs, e2, _, hent, hcall⟩ := hf
  simp only [Value.func.injEq, Fn.func.injEq, true_and] at e2
  obtain ⟨rfl, rfl⟩ := e2
  have hent' : ∀ (args : Array Value) (w : World), (callFunc K args).run Tryd.prog w = .ok (.enter K args) w := hent
  have HEF := hide (fun W (hW : Below w.heap.size w W) => equalF_any N[a] N[b] _ _ (.func (.func K) #[] #[c]) (tab N T).k N.length ((tab N T).nx a) ((tab N T).nx b) (sameB of) W (i1.below hW) (i2.below hW) lA lB
    (fun i hi => ⟨by have := hG.next a ha i hi; rwa [eA] at this, hok a ha i hi⟩) (fun i hi => ⟨by have := hG.next b hb i hi; rwa [eB] at this, hok b hb i hi⟩)
    (PPred.below ⟨K, #[c], rfl, .inl ⟨c, rfl⟩, hent, hcall⟩ hW))
  have HCI := hide (fun W (hW : Below w.heap.size w W) => hcall a b W hW ha hb)
  rw [lead_pairs]
  generalize sameB of a b = y at *
  generalize pairsB (tab N T).k (sameB of) ((tab N T).nx a) ((tab N T).nx b) = z at *
  rw [lA] at c1 HEF
  rw [lB] at c2 HEF
  obtain ⟨t0, t1⟩ := ht
  have HD := hide (drewB w)
  have HK : Hid (∀ W, Below w.heap.size w W → W.cell? ⟨bI, 0, none⟩ = some (.func (.func K) #[] #[c]) ∧ W.cell? ⟨bT, 0, none⟩ = some (.slice (some ⟨g, o, none⟩) N.length nc) ∧ W.cell? ⟨g, o + a, none⟩ = some (.slice u1 (tab N T).k d1) ∧ W.cell? ⟨g, o + b, none⟩ = some (.slice u2 (tab N T).k d2)) := fun W hW => ⟨kept hW hI, kept hW t0, kept hW c1, kept hW c2⟩
  clear hN i1 i2 t1 hcall hent eA eB lA lB hG hok
  generalize (tab N T).k = k at *
  generalize N.length = n at *
  have hai : (a : Int) < (n : Int) := by omega
  have hbi : (b : Int) < (n : Int) := by omega
  cases y with
  | true =>
    go_enter Tryd.func42, Tryd.ntmps42
    go_wp2_with fail
    go_region_held3 (fun W => W.cell? ⟨bI, 0, none⟩ = some (.func (.func K) #[] #[c]) ∧ W.cell? ⟨bT, 0, none⟩ = some (.slice (some ⟨g, o, none⟩) n nc) ∧ W.cell? ⟨g, o + a, none⟩ = some (.slice u1 k d1) ∧ W.cell? ⟨g, o + b, none⟩ = some (.slice u2 k d2)) ((refine HK.out _ ?_; first | exact HD.out | exact HB2.out | exact HB3.out | exact Below.refl _ _)) ((first
      | (go_at_call 43; (with_reducible refine (HEF.out _ HB2.out).mono ?_); rintro e w3 ⟨rfl, hb3⟩; have HB3 : Hid (Below w.heap.size w w3) := then_ HB2.out hb3; clear hb3)
      | (refine (HCI.out _ HD.out).mono ?_; rintro e w2 ⟨rfl, hb2⟩; have HB2 : Hid (Below w.heap.size w w2) := then_ HD.out hb2; clear hb2)))
    go_wp2_with fail
    go_ret
    exact ⟨rfl, HB3.out⟩
  | false =>
    go_enter Tryd.func42, Tryd.ntmps42
    go_wp2_with fail
    refine wp_region_noPanic ?_
    refine wp_region_held_drew (S := fun W => W.cell? ⟨bI, 0, none⟩ = some (.func (.func K) #[] #[c]) ∧ W.cell? ⟨bT, 0, none⟩ = some (.slice (some ⟨g, o, none⟩) n nc) ∧ W.cell? ⟨g, o + a, none⟩ = some (.slice u1 k d1) ∧ W.cell? ⟨g, o + b, none⟩ = some (.slice u2 k d2)) (by kernel_rfl) (HK.out _ HD.out) (fun hHeld => ?_)
    refine take_at 0 7 (.func (.func K) #[] #[c]) rfl rfl (by kernel_rfl) (by kernel_rfl) (by kernel_rfl) (fun _ _ _ h => h) hHeld (Or.inl ⟨by rfl, ?_⟩) ?_
    · rintro Z ⟨z0, z1, z2, z3⟩
      go_simp
    simp only [List.setIfInBounds_toArray, List.set_cons_zero, List.set_cons_succ]
    refine take_at 1 8 (.int .i64 (a : Int)) rfl rfl (by kernel_rfl) (by kernel_rfl) (by kernel_rfl) (fun _ _ _ h => h) hHeld (Or.inl ⟨by rfl, ?_⟩) ?_
    · rintro Z ⟨z0, z1, z2, z3⟩
      go_simp
    simp only [List.setIfInBounds_toArray, List.set_cons_zero, List.set_cons_succ]
    refine take_at 2 9 (.int .i64 (b : Int)) rfl rfl (by kernel_rfl) (by kernel_rfl) (by kernel_rfl) (fun _ _ _ h => h) hHeld (Or.inl ⟨by rfl, ?_⟩) ?_
    · rintro Z ⟨z0, z1, z2, z3⟩
      go_simp
    simp only [List.setIfInBounds_toArray, List.set_cons_zero, List.set_cons_succ]
    refine wpAnyH_ready (rs := [3]) (by kernel_rfl) (by simp) ?_
    intro i hmem
    obtain rfl := List.mem_singleton.1 hmem
    refine wpOp_k rfl (by rfl) (fun K' hK => ?_)
    go_simp
    refine (HCI.out _ HD.out).mono ?_
    rintro e w2 ⟨rfl, hb2⟩
    have HB2 : Hid (Below w.heap.size w w2) := then_ HD.out hb2
    have h3 := HK.out _ HB2.out
    clear hb2 hHeld
    refine hK _ _ ⟨h3, ?_⟩
    clear hK K'
    refine take_at 4 11 (.bool false) rfl rfl (by kernel_rfl) (by kernel_rfl) (by kernel_rfl) (fun _ _ _ h => h) h3 (Or.inl ⟨by rfl, ?_⟩) ?_
    · rintro Z ⟨z0, z1, z2, z3⟩
      go_simp
    simp only [List.setIfInBounds_toArray, List.set_cons_zero, List.set_cons_succ]
    refine skip_at 5 12 4 true rfl rfl rfl rfl (by kernel_rfl) (by kernel_rfl) (by kernel_rfl) (fun _ _ _ h => h) h3 ?_
    simp only [List.setIfInBounds_toArray, List.set_cons_zero, List.set_cons_succ]
    refine skip_at 6 13 4 true rfl rfl rfl rfl (by kernel_rfl) (by kernel_rfl) (by kernel_rfl) (fun _ _ _ h => h) h3 ?_
    simp only [List.setIfInBounds_toArray, List.set_cons_zero, List.set_cons_succ]
    refine skip_at 7 14 4 true rfl rfl rfl rfl (by kernel_rfl) (by kernel_rfl) (by kernel_rfl) (fun _ _ _ h => h) h3 ?_
    simp only [List.setIfInBounds_toArray, List.set_cons_zero, List.set_cons_succ]
    refine skip_at 8 15 4 true rfl rfl rfl rfl (by kernel_rfl) (by kernel_rfl) (by kernel_rfl) (fun _ _ _ h => h) h3 ?_
    simp only [List.setIfInBounds_toArray, List.set_cons_zero, List.set_cons_succ]
    refine skip_at 9 16 4 true rfl rfl rfl rfl (by kernel_rfl) (by kernel_rfl) (by kernel_rfl) (fun _ _ _ h => h) h3 ?_
    simp only [List.setIfInBounds_toArray, List.set_cons_zero, List.set_cons_succ]
    refine skip_at 10 17 4 true rfl rfl rfl rfl (by kernel_rfl) (by kernel_rfl) (by kernel_rfl) (fun _ _ _ h => h) h3 ?_
    simp only [List.setIfInBounds_toArray, List.set_cons_zero, List.set_cons_succ]
    refine skip_at 11 18 4 true rfl rfl rfl rfl (by kernel_rfl) (by kernel_rfl) (by kernel_rfl) (fun _ _ _ h => h) h3 ?_
    simp only [List.setIfInBounds_toArray, List.set_cons_zero, List.set_cons_succ]
    refine skip_at 12 19 4 true rfl rfl rfl rfl (by kernel_rfl) (by kernel_rfl) (by kernel_rfl) (fun _ _ _ h => h) h3 ?_
    simp only [List.setIfInBounds_toArray, List.set_cons_zero, List.set_cons_succ]
    refine skip_at 13 20 4 true rfl rfl rfl rfl (by kernel_rfl) (by kernel_rfl) (by kernel_rfl) (fun _ _ _ h => h) h3 ?_
    simp only [List.setIfInBounds_toArray, List.set_cons_zero, List.set_cons_succ]
    refine skip_at 14 21 4 true rfl rfl rfl rfl (by kernel_rfl) (by kernel_rfl) (by kernel_rfl) (fun _ _ _ h => h) h3 ?_
    simp only [List.setIfInBounds_toArray, List.set_cons_zero, List.set_cons_succ]
    refine skip_at 15 22 4 true rfl rfl rfl rfl (by kernel_rfl) (by kernel_rfl) (by kernel_rfl) (fun _ _ _ h => h) h3 ?_
    simp only [List.setIfInBounds_toArray, List.set_cons_zero, List.set_cons_succ]
    refine wpAnyH_ready (rs := [16]) (by kernel_rfl) (by simp) ?_
    intro i hmem
    obtain rfl := List.mem_singleton.1 hmem
    refine wpOp_skip 16 23 4 true rfl rfl rfl rfl ⟨h3, ?_⟩
    simp only [List.setIfInBounds_toArray, List.set_cons_zero, List.set_cons_succ]
    refine take_at 17 24 (.bool false) rfl rfl (by kernel_rfl) (by kernel_rfl) (by kernel_rfl) (fun _ _ _ h => h) h3 (Or.inl ⟨by rfl, ?_⟩) ?_
    · rintro Z ⟨z0, z1, z2, z3⟩
      go_simp
    simp only [List.setIfInBounds_toArray, List.set_cons_zero, List.set_cons_succ]
    refine take_at 18 6 (.bool false) rfl rfl (by kernel_rfl) (by kernel_rfl) (by kernel_rfl) (fun _ _ _ h => h) h3 (Or.inl ⟨by rfl, ?_⟩) ?_
    · rintro Z ⟨z0, z1, z2, z3⟩
      go_simp
    simp only [List.setIfInBounds_toArray, List.set_cons_zero, List.set_cons_succ]
    refine wpAnyH_done (by kernel_rfl) ?_ _
    refine NoPanic.normal ?_
    go_wp2_with fail
    go_ret
    exact ⟨rfl, HB2.out⟩
/-- what leadAlike comes to -/
def LeadDone (w : World) (N T : List (List Int)) (of : List Nat) (e : Ending) (w' : World) : Prop := ∃ K c d, e = .returned (.func (.func K) #[] #[c, d]) ∧ PPred w' (.func (.func K) #[] #[c, d]) N.length (lead (tab N T) of) ∧ Below w.heap.size w w'
set_option maxHeartbeats 4000000 in
set_option maxRecDepth 100000 in
theorem leadAlike_any (N T : List (List Int)) (nv tv : Value) (gO : Nat) (of : List Nat) (w : World) (hG : Good N T) (hN : Rows w nv N) (hT : Rows w tv T) (hr : RowIs w gO 3 ((ints of).map intV)) (hl : of.length = N.length) :
    Calls Tryd.prog 35 #[.agg #[nv, tv], .slice (some ⟨gO, 0, none⟩) N.length N.length] w (LeadDone w N T of) := by
  have hmf : ∀ (fn : Fn) (first cap : Array Value) (w : World), (Instr.makeFunc fn first cap).run Tryd.prog w = .ok (.func fn first cap) w := fun _ _ _ _ => rfl
  obtain ⟨wA, hwA⟩ : ∃ wA, wA = w.alloc (.cells #[nv, tv] 24) := ⟨_, rfl⟩
  obtain ⟨wB, hwB⟩ : ∃ wB, wB = wA.alloc (.cells #[.slice (some ⟨gO, 0, none⟩) N.length N.length] 31) := ⟨_, rfl⟩
  obtain ⟨wC, hwC⟩ : ∃ wC, wC = wB.alloc (.cells #[.func (.func 41) #[] #[.pointer (some ⟨w.heap.size + 1, 0, none⟩)]] 67) := ⟨_, rfl⟩
  have hzA : wA.heap.size = w.heap.size + 1 := by rw [hwA]; simp
  have hzB : wB.heap.size = w.heap.size + 2 := by rw [hwB]; simp [hzA]
  have hAB : Below w.heap.size w wA := by rw [hwA]; exact (Below.refl _ _).alloc (Nat.le_refl _) _
  have hBC : Below wA.heap.size wA wB := by rw [hwB]; exact (Below.refl _ _).alloc (Nat.le_refl _) _
  have hCD : Below wB.heap.size wB wC := by rw [hwC]; exact (Below.refl _ _).alloc (Nat.le_refl _) _
  have hAC := then_ hAB (then_ hBC hCD)
  have h1 : wC.cell? ⟨w.heap.size + 1, 0, none⟩ = some (.slice (some ⟨gO, 0, none⟩) N.length N.length) := kept hCD (by rw [hwB, ← hzA, Lib.cell_of_heap (heap_alloc_new wA _)]; rfl)
  have h2 : wC.cell? ⟨w.heap.size + 2, 0, none⟩ = some (.func (.func 41) #[] #[.pointer (some ⟨w.heap.size + 1, 0, none⟩)]) := by rw [hwC, ← hzB, Lib.cell_of_heap (heap_alloc_new wB _)]; rfl
  have h3 : Tab wC w.heap.size nv tv := by refine Tab.below ?_ (then_ hBC hCD); rw [hwA]; exact Tab.new _ _ _
  have HP : Hid (PPred wC (.func (.func 42) #[] #[.pointer (some ⟨w.heap.size + 2, 0, none⟩), .pointer (some ⟨w.heap.size, 0, none⟩)]) N.length (lead (tab N T) of)) :=
    ⟨_, _, rfl, .inr ⟨_, _, rfl⟩, fun _ _ => by kernel_rfl, fun x y W hW hx hy => lead2_any N T x y _ _ nv tv _ of W hG (hN.below (then_ hAC hW)) (h3.below hW) (kept hW h2) (into_pred _ _ gO of W (kept hW h1) (hr.below (then_ hAC hW)) hl) ⟨_, _, rfl⟩ hx hy⟩
  have HBC := hide hAC
  obtain ⟨na, nc, rfl⟩ := hN.slice
  obtain ⟨ta, tc, rfl⟩ := hT.slice
  clear hN hT hr hl hG hzA hzB hAB hBC hCD hAC h1 h2 h3
  go_enter Tryd.func35, Tryd.ntmps35
  go_wp2_with fail
  rw [← hwA, ← hwB, ← hwC]
  go_ret
  exact ⟨_, _, _, rfl, HP.out, HBC.out⟩
/-- the groups behind so many rounds -/
def gd (N T : List (List Int)) (d : Nat) : List Nat × List Nat := grp (eqB (tab N T) d) N.length
/-- what blocks comes to: as many rounds as it takes -/
def BlkDone (w : World) (N T : List (List Int)) (e : Ending) (w' : World) : Prop := ∃ d, 1 ≤ d ∧ Stable (tab N T) d ∧ GrpDone w N.length (gd N T d) e w'
set_option maxHeartbeats 8000000 in
set_option maxRecDepth 100000 in
theorem blocks_any (N T : List (List Int)) (nv tv : Value) (w : World) (hG : Good N T) (hN : Rows w nv N) (hT : Rows w tv T) :
    Calls Tryd.prog 19 #[.agg #[nv, tv]] w (BlkDone w N T) := by
  have hmf : ∀ (fn : Fn) (first cap : Array Value) (w : World), (Instr.makeFunc fn first cap).run Tryd.prog w = .ok (.func fn first cap) w := fun _ _ _ _ => rfl
  obtain ⟨wA, hwA⟩ : ∃ wA, wA = w.alloc (.cells #[nv, tv] 24) := ⟨_, rfl⟩
  have hBA : Below w.heap.size w wA := by rw [hwA]; exact (Below.refl _ _).alloc (Nat.le_refl _) _
  have hTA : Tab wA w.heap.size nv tv := by rw [hwA]; exact Tab.new _ _ _
  have hn5 := hG.few
  have HLN : Hid (∀ d, (gd N T d).1.length = N.length) := fun d => (inv_grp (eqv_eqB (tab N T) d) _ (Nat.le_refl _)).len
  have HG1 : Hid (Calls Tryd.prog 32 #[.int .i64 (N.length : Int), .func (.func 33) #[] #[.pointer (some ⟨w.heap.size, 0, none⟩)]] wA (GrpDone wA N.length (gd N T 1))) := grouped_any N.length _ (eqB (tab N T) 1) wA (blocks1_pred N T w.heap.size nv tv wA hG (hT.below hBA) hTA) (eqv_eqB (tab N T) 1) hn5
  have HLE := hide (fun W gO d (hW : Below wA.heap.size wA W) (hr : RowIs W gO 3 ((ints (gd N T d).1).map intV)) => leadAlike_any N T nv tv gO (gd N T d).1 W hG (hN.below (then_ hBA hW)) (hT.below (then_ hBA hW)) hr (HLN.out d))
  have HG2 : Hid (∀ W f d, 1 ≤ d → PPred W f N.length (lead (tab N T) (gd N T d).1) → Calls Tryd.prog 32 #[.int .i64 (N.length : Int), f] W (GrpDone W N.length (gd N T (d + 1)))) := fun W f d hd hf => by
    have h := grouped_any N.length f _ W hf (show Eqv N.length _ from by
      have e := eqv_eqB (tab N T) (d + 1)
      have li := fun a b ha hb => lead_iff hG.ok d a b hd ha hb
      exact ⟨fun a ha => (li a a ha ha).2 (e.refl a ha), fun a b ha hb h => (li b a hb ha).2 (e.symm a b ha hb ((li a b ha hb).1 h)), fun a b c ha hb hc h h2 => (li a c ha hc).2 (e.trans a b c ha hb hc ((li a b ha hb).1 h) ((li b c hb hc).1 h2))⟩) hn5
    have e2 : grp (lead (tab N T) (gd N T d).1) N.length = gd N T (d + 1) := grp_lead hG.ok d hd
    rw [e2] at h
    exact h
  have HST : Hid (∀ d, (gd N T (d + 1)).2.length = (gd N T d).2.length → Stable (tab N T) d) := fun d h => grp_stable hG.ok d h
  have HMO : Hid (∀ d, (gd N T d).2.length ≤ (gd N T (d + 1)).2.length) := fun d => grp_more d
  have HFL : Hid (∀ d, (gd N T d).2.length ≤ N.length) := fun d => firsts_le _
  obtain ⟨na, nc, rfl⟩ := hN.slice
  obtain ⟨ta, tc, rfl⟩ := hT.slice
  have HBA := hide hBA
  have HKS : Hid (∀ W, Below wA.heap.size wA W → W.cell? ⟨w.heap.size, 0, none⟩ = some (.slice na N.length nc) ∧ W.cell? ⟨w.heap.size, 1, none⟩ = some (.slice ta T.length tc)) := fun W hW => hTA.below hW
  clear hN hT hG hBA hTA
  have HDN : Hid (∀ d W e, 1 ≤ d → Stable (tab N T) d → GrpDone w N.length (gd N T d) e W → BlkDone w N T e W) := fun d W e h1 h2 h3 => ⟨d, h1, h2, h3⟩
  go_enter Tryd.func19, Tryd.ntmps19
  go_wp2_with fail
  rw [← hwA]
  clear hwA
  refine HG1.out.mono ?_
  rintro e w1 ⟨g1, f1, rfl, hr1, ho1, hg1, hb1⟩
  obtain ⟨fa1, fc1, rfl⟩ := own_slice ho1
  have HR1 := hide hr1
  have HO1 := hide ho1
  have HB1 := hide hb1
  have HGE := hide hg1
  clear hr1 ho1 hb1 hg1 HG1
  go_wp2_with fail
  go_loopw [2, 3] (fun ov fv wr => ∃ d gO fa fc, 1 ≤ d ∧ ov = .slice (some ⟨gO, 0, none⟩) N.length N.length ∧ fv = .slice fa (gd N T d).2.length fc ∧ Hid (RowIs wr gO 3 ((ints (gd N T d).1).map intV)) ∧ Hid (wr.ownsRow w.heap.size 3 1 (.slice fa (gd N T d).2.length fc) (gd N T d).2.length ((ints (gd N T d).2).map intV)) ∧ Hid (w.heap.size ≤ gO) ∧ Hid (Below wA.heap.size wA wr)) (fun _ fv _ => N.length - lenV fv)
  case atStart => exact ⟨1, g1, fa1, fc1, Nat.le_refl _, rfl, rfl, HR1.out, own_mono HO1.out HBA.out.size, Nat.le_trans HBA.out.size HGE.out, HB1.out⟩
  case round =>
    obtain ⟨d, gO, fa, fc, hd, rfl, rfl, HR, HO, HGO, HB⟩ := hrel
    have HL2 := hide (fun W (hW : Below wr.heap.size wr W) => HLE.out W gO d (then_ HB.out hW) (RowIs.below HR.out hW))
    have HD := hide (drewB wr)
    have HKR : Hid (∀ W, Below wr.heap.size wr W → W.cell? ⟨w.heap.size, 0, none⟩ = some (.slice na N.length nc) ∧ W.cell? ⟨w.heap.size, 1, none⟩ = some (.slice ta T.length tc)) := fun W hW => HKS.out W (then_ HB.out hW)
    have HGG := hide (fun W f => HG2.out W f d hd)
    have HSD := hide (HST.out d)
    have HMD := HMO.out d
    have HFD := HFL.out (d + 1)
    have HDD := hide (fun W e => HDN.out d W e hd)
    obtain ⟨m, hm⟩ : ∃ m, m = (gd N T d).2.length := ⟨_, rfl⟩
    obtain ⟨m2, hm2⟩ : ∃ m, m = (gd N T (d + 1)).2.length := ⟨_, rfl⟩
    have HM := hide hm
    have HM2 := hide hm2
    rw [← hm] at HO HSD HMD ⊢
    rw [← hm2] at HSD HMD HFD
    clear hm hm2
    go_wp2_with fail
    go_region_held3 (fun W => W.cell? ⟨w.heap.size, 0, none⟩ = some (.slice na N.length nc) ∧ W.cell? ⟨w.heap.size, 1, none⟩ = some (.slice ta T.length tc)) ((refine HKR.out _ ?_; first | exact HD.out | exact HB2.out | exact HB3.out | exact Below.refl _ _)) ((first
      | (go_at_call 35; (with_reducible refine (HL2.out _ HD.out).mono ?_); rintro e w2 ⟨K2, c2, d2, rfl, hp2, hb2⟩; have HB2 : Hid (Below wr.heap.size wr w2) := then_ HD.out hb2; have HP2 := hide hp2; clear hb2 hp2)
      | (go_at_call 32; (with_reducible refine (HGG.out _ _ HP2.out).mono ?_); rintro e w3 ⟨g3, f3, rfl, hr3, ho3, hg3, hb3⟩; have HB3 : Hid (Below wr.heap.size wr w3) := then_ HB2.out hb3; have HR3 := hide hr3; have HO3 := hide ho3; have HGE3 : Hid (w.heap.size ≤ g3) := Nat.le_trans HBA.out.size (Nat.le_trans HB.out.size (Nat.le_trans HB2.out.size hg3)); obtain ⟨fa3, fc3, hf3⟩ := own_slice ho3; subst hf3; clear hb3 hr3 ho3 hg3)))
    have HOW3 : Hid (w3.ownsRow w.heap.size 3 1 (.slice fa3 (gd N T (d + 1)).2.length fc3) (gd N T (d + 1)).2.length ((ints (gd N T (d + 1)).2).map intV)) := own_mono HO3.out (Nat.le_trans HBA.out.size (Nat.le_trans HB.out.size HB2.out.size))
    have HEND : Hid (m2 = m → BlkDone w N T (.returned (.tuple #[.slice (some ⟨gO, 0, none⟩) N.length N.length, .slice fa m fc])) w3) := fun h => HDD.out _ _ (HSD.out h) ⟨_, _, rfl, RowIs.below HR.out HB3.out, by have h := own_below HO.out HB3.out; rw [HM.out] at h ⊢; exact h, HGO.out, then_ HBA.out (then_ HB.out HB3.out)⟩
    rw [← HM2.out] at HOW3
    rw [← HM2.out]
    by_cases hmm : m2 = m
    · have HE := hide (HEND.out hmm)
      subst hmm
      go_wp2_with fail
      go_ret2
      exact HE.out
    · have hmi : ¬ (m2 : Int) = (m : Int) := by omega
      go_wp2_with fail
      go_roundw
      case rel => exact ⟨d + 1, g3, fa3, fc3, by omega, rfl, by rw [HM2.out], HR3.out, by rw [HM2.out] at HOW3; exact HOW3.out, HGE3.out, then_ HB.out HB3.out⟩
      case measure => simp [lenV]; omega
end Bk
end Go.Proofs.YtdeijfkahhgojaaDoor
