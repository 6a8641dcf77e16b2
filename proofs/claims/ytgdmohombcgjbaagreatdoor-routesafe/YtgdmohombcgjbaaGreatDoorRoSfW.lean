/-
  The walk of package route's Safe: what must hold behind each scan, as an expression.
-/
import Derived.Test.YtgdmohombcgjbaaGreatDoorRoSfEAll
import Derived.Test.YtgdmohombcgjbaaGreatDoorExLeAll
import Derived.Deep.AppendLies
namespace Go.Proofs.YtgdmohombcgjbaaGreatDoor
namespace Ro
open Go.RowKit
/-- parts in an own row, each in blocks apart from the row's -/
def PX (B : Nat) (W : World) (sv : Value) (xs : List Ex) : Prop := ∃ us : List Value, us.length = xs.length ∧ W.ownsRow B 34 1 sv xs.length us ∧ (∀ u, u ∈ us → ∃ t x, u = .iface t x) ∧ ∀ (k : Nat) x u, xs[k]? = some x → us[k]? = some u → IsEx (fun g => some g ≠ sv.ownBlock) W x u
theorem PX.nil (B : Nat) (W : World) : PX B W (.slice none 0 0) [] := ⟨[], rfl, World.ownsRow_nil _ _ _ _, fun u hu => by simp at hu, fun k x u hx => by simp at hx⟩
theorem PX.below {B : Nat} {W W' : World} {sv : Value} {xs : List Ex} (h : PX B W sv xs) (hb : Below W.heap.size W W') : PX B W' sv xs := by
  obtain ⟨us, h1, h2, h3, h4⟩ := h
  exact ⟨us, h1, own_below h2 hb, h3, fun k x u hx hu => IsEx.stay (Stay.below hb) (fun _ hg => hg) x u (h4 k x u hx hu)⟩
/-- more parts are appended -/
theorem PX.push {B : Nat} {W W' : World} {sv : Value} {xs ys : List Ex} {us vs : List Value} {g cap : Nat} (h1 : us.length = xs.length) (h3 : ∀ u, u ∈ us → ∃ t x, u = .iface t x) (h4 : ∀ (k : Nat) x u, xs[k]? = some x → us[k]? = some u → IsEx (fun g => some g ≠ sv.ownBlock) W x u) (hv : vs.length = ys.length) (hv3 : ∀ u, u ∈ vs → ∃ t x, u = .iface t x) (hv4 : ∀ (k : Nat) x u, ys[k]? = some x → vs[k]? = some u → IsEx (fun g => some g ≠ sv.ownBlock) W x u)
    (hown : W'.ownsRow B 34 1 (.slice (some ⟨g, 0, none⟩) (xs.length + ys.length) cap) (xs.length + ys.length) (us ++ vs)) (hgr : W.grownBy W' sv.ownBlock) (hat : sv.ownBlock = some g ∨ g = W.heap.size) : PX B W' (.slice (some ⟨g, 0, none⟩) (xs ++ ys).length cap) (xs ++ ys) := by
  have key : ∀ x u, IsEx (fun g => some g ≠ sv.ownBlock) W x u → IsEx (fun k => some k ≠ some g) W' x u := fun x u h => by
    have h5 := IsEx.lt x u h
    refine IsEx.stay (Stay.grown hgr (fun k hk => hk.1)) (fun k hk => ?_) x u h5
    intro e
    cases e
    rcases hat with hat | hat
    · exact hk.1 hat.symm
    · have := hk.2; omega
  refine ⟨us ++ vs, by simp [h1, hv], by rw [List.length_append]; exact hown, fun u hu => ?_, fun k x u hx hu => ?_⟩
  · rcases List.mem_append.1 hu with h | h
    · exact h3 u h
    · exact hv3 u h
  · by_cases hk : k < xs.length
    · rw [List.getElem?_append_left hk] at hx
      rw [List.getElem?_append_left (by omega)] at hu
      exact key x u (h4 k x u hx hu)
    · rw [List.getElem?_append_right (by omega)] at hx
      rw [List.getElem?_append_right (by omega), h1] at hu
      exact key x u (hv4 _ x u hx hu)
theorem all0_any (w : World) : Calls Tryz.prog 16 #[.slice none 0 0] w fun e w' => e = .returned (.iface 100 (.bool true)) ∧ w' = w := by
  go_enter Tryz.func16, Tryz.ntmps16
  go_wp2_with fail
  go_ret
  exact ⟨rfl, rfl⟩
/-- all parts together -/
theorem allP_any (B : Nat) (sv : Value) (xs : List Ex) (w : World) (h : PX B w sv xs) (hl : xs.length ≤ 1000) : Calls Tryz.prog 16 #[sv] w fun e w' => ∃ v, e = .returned v ∧ IsEx (fun _ => True) w' (allE0 xs) v ∧ w' = w := by
  obtain ⟨us, h1, h2, h3, h4⟩ := h
  rw [← h1] at h2
  match xs, h1, h4, hl with
  | [], h1, _, _ =>
    have hu : us = [] := List.length_eq_zero_iff.1 (by simpa using h1)
    subst hu
    rcases h2.2 with ⟨rfl, _⟩ | ⟨g, cap, cur, rfl, hg, hcur, hcap, _⟩
    · refine (all0_any w).mono ?_
      rintro e w' ⟨rfl, rfl⟩
      exact ⟨_, rfl, by simp only [allE0, IsEx]; exact ⟨trivial, trivial, trivial⟩, rfl⟩
    · go_enter Tryz.func16, Tryz.ntmps16
      go_wp2_with fail
      go_ret
      exact ⟨_, rfl, by simp only [allE0, IsEx]; exact ⟨trivial, trivial, rfl⟩, rfl⟩
  | x :: r, h1, h4, hl =>
    have h0 : us ≠ [] := fun e => by rw [e] at h1; simp at h1
    obtain ⟨hvs, g, cap, rfl, hg, hcap⟩ := vs_own h2 h0 (by omega) h3
    refine (all_any us _ w hvs h0).mono ?_
    rintro e w' ⟨rfl, rfl⟩
    refine ⟨_, rfl, ?_, rfl⟩
    match us, r, h1, h4, hvs with
    | [u], [], _, h4, _ =>
      show IsEx _ _ (allE [x]) u
      exact IsEx.stay (fun _ _ _ _ hc => hc) (fun _ _ => trivial) x u (h4 0 x u rfl rfl)
    | u :: u2 :: us, y :: r, h1, h4, hvs =>
      show IsEx _ _ ⟨6, [], x :: y :: r⟩ (.iface 101 (.slice (some ⟨g, 0, none⟩) (u :: u2 :: us).length cap))
      refine and_of (by simpa using h1.symm) (by simp) (by omega) hcap trivial (fun k z hz => ?_)
      obtain ⟨g', c', e, _, _, hc⟩ := hvs
      simp only [Value.slice.injEq, Option.some.injEq, Addr.mk.injEq, and_true] at e
      have hk : k < (u :: u2 :: us).length := by rw [h1]; exact (List.getElem?_eq_some_iff.1 hz).1
      have hu := List.getElem?_eq_getElem hk
      refine ⟨_, by rw [e.1]; exact (hc k _ hu).1, IsEx.stay (fun _ _ _ _ hc => hc) (fun _ _ => trivial) z _ (h4 k z _ hz hu)⟩
/-- all stands but a row of parts that grows -/
structure KP (w2 : World) (pb : Option Nat) (sv : Value) (W : World) : Prop where
  os : W.os = w2.os
  tape : W.tape = w2.tape
  output : W.output = w2.output
  size : w2.heap.size ≤ W.heap.size
  block : ∀ k, k < w2.heap.size → some k ≠ pb → W.heap[k]? = w2.heap[k]?
  own : sv.ownBlock = pb ∨ ∀ b, sv.ownBlock = some b → w2.heap.size ≤ b
theorem KP.refl (w2 : World) (sv : Value) : KP w2 sv.ownBlock sv w2 := ⟨rfl, rfl, rfl, Nat.le_refl _, fun _ _ _ => rfl, .inl rfl⟩
theorem KP.below {w2 : World} {pb : Option Nat} {sv : Value} {W W' : World} (h : KP w2 pb sv W) (hb : Below W.heap.size W W') : KP w2 pb sv W' :=
  ⟨hb.os.trans h.os, hb.tape.trans h.tape, hb.output.trans h.output, Nat.le_trans h.size hb.size, fun k h1 h2 => (hb.block k (Nat.lt_of_lt_of_le h1 h.size)).trans (h.block k h1 h2), h.own⟩
theorem KP.grow {w2 : World} {pb : Option Nat} {sv : Value} {W W' : World} {g n cap : Nat} (h : KP w2 pb sv W) (hg : W.grownBy W' sv.ownBlock) (hat : sv.ownBlock = some g ∨ g = W.heap.size) : KP w2 pb (.slice (some ⟨g, 0, none⟩) n cap) W' := by
  refine ⟨hg.os.trans h.os, hg.tape.trans h.tape, hg.output.trans h.output, Nat.le_trans h.size hg.size, fun k h1 h2 => ?_, ?_⟩
  · refine (hg.block k (Nat.lt_of_lt_of_le h1 h.size) (fun e => ?_)).trans (h.block k h1 h2)
    rcases h.own with h3 | h3
    · exact h2 (e.trans h3)
    · have := h3 k e.symm; omega
  · rcases hat with hat | hat
    · rcases h.own with h3 | h3
      · exact .inl (hat.symm.trans h3)
      · exact .inr fun b e => h3 b (hat.trans e)
    · exact .inr fun b e => by cases e; rw [hat]; exact h.size
theorem KP.cell {w2 : World} {pb : Option Nat} {sv : Value} {W : World} (h : KP w2 pb sv W) {p : Addr} {v : Value} (hc : w2.cell? p = some v) (hn : some p.block ≠ pb) : W.cell? p = some v :=
  (World.cell?_of_block (h.block p.block (World.block_lt_of_cell? _ _ hc) hn)).trans hc
theorem KP.low {w2 : World} {pb : Option Nat} {sv : Value} {W w1 : World} (h : KP w2 pb sv W) (hb : Below w1.heap.size w1 w2) (hp : ∀ b, pb = some b → w1.heap.size ≤ b) : Below w1.heap.size w1 W :=
  ⟨h.os.trans hb.os, h.tape.trans hb.tape, h.output.trans hb.output, Nat.le_trans hb.size h.size, fun k hk => (h.block k (Nat.lt_of_lt_of_le hk hb.size) (fun e => by have := hp k e.symm; omega)).trans (hb.block k hk)⟩
/-- the parts of the first routes -/
def psTo (t : Tbl) (k : Nat) : List Ex := (List.range k).flatMap (partsE t)
theorem psTo_succ (t : Tbl) (k : Nat) : psTo t (k + 1) = psTo t k ++ partsE t k := by simp [psTo, List.range_succ]
/-- those of a route's clashes, and of its points -/
def clTo (t : Tbl) (k j : Nat) : List Ex := (((clashing t k).take j).filter fun o => decide (o < k)).map fun o => bothE o k
theorem clTo_succ (t : Tbl) (k j : Nat) (hj : j < (clashing t k).length) : clTo t k (j + 1) = clTo t k j ++ (if (clashing t k)[j] < k then [bothE (clashing t k)[j] k] else []) := by
  unfold clTo
  rw [List.take_succ_eq_append_getElem hj, List.filter_append, List.map_append]
  congr 1
  by_cases h : (clashing t k)[j] < k <;> simp [h]
theorem clTo_le (t : Tbl) (k j : Nat) : (clTo t k j).length ≤ j := by
  unfold clTo
  rw [List.length_map]
  exact Nat.le_trans (List.length_filter_le _ _) (by simp; omega)
def ptTo (t : Tbl) (k j : Nat) : List Ex := ((rt t k).pts.take j).flatMap fun q => [liesE k q, restsE k q]
theorem ptTo_succ (t : Tbl) (k j : Nat) (hj : j < (rt t k).pts.length) : ptTo t k (j + 1) = ptTo t k j ++ [liesE k (rt t k).pts[j], restsE k (rt t k).pts[j]] := by
  unfold ptTo
  rw [List.take_succ_eq_append_getElem hj, List.flatMap_append]
  simp
theorem ptTo_len (t : Tbl) (k : Nat) : ∀ j, (ptTo t k j).length ≤ 2 * j
  | 0 => by simp [ptTo]
  | j + 1 => by
    have ih := ptTo_len t k j
    by_cases hj : j < (rt t k).pts.length
    · rw [ptTo_succ t k j hj]; simp; omega
    · unfold ptTo at ih ⊢
      rw [List.take_of_length_le (by omega)] at ih ⊢
      omega
theorem parts_len (t : Tbl) (k : Nat) : (partsE t k).length ≤ (clashing t k).length + 2 * (rt t k).pts.length := by
  have h1 := clTo_le t k (clashing t k).length
  have h2 := ptTo_len t k (rt t k).pts.length
  unfold clTo at h1
  unfold ptTo at h2
  rw [List.take_length] at h1 h2
  unfold partsE
  rw [List.length_append]
  omega
theorem parts_is (t : Tbl) (k : Nat) : partsE t k = clTo t k (clashing t k).length ++ ptTo t k (rt t k).pts.length := by
  unfold partsE clTo ptTo
  rw [List.take_length, List.take_length]
theorem psTo_len {t : Tbl} {S P : Nat} (f : Fits t S P) : ∀ k, k ≤ t.rts.length → (psTo t k).length ≤ k * 10
  | 0, _ => by simp [psTo]
  | k + 1, hk => by
    have ih := psTo_len f k (by omega)
    have h1 := parts_len t k
    have h2 := f.lp _ (rt_mem t k (by omega))
    have h3 := clashTo_len t k t.rts.length
    have h4 := f.R3
    have h5 : (clashing t k).length ≤ t.rts.length := by unfold clashing; exact h3
    rw [psTo_succ, List.length_append]
    omega
set_option maxHeartbeats 8000000 in
set_option maxRecDepth 100000 in
theorem Safe_any (t : Tbl) (rv : Value) (S P : Nat) (w : World) (hr : Rts w rv t.rts) (f : Fits t S P) (hck : check t = none) :
    Calls Tryz.prog 5 #[.agg #[.int .i64 t.secs, .int .i64 t.pts, rv]] w fun e w' => ∃ v, e = .returned (.tuple #[v, .nilIface]) ∧ IsEx (fun _ => True) w' (safeE t) v ∧ Below w.heap.size w w' := by
  obtain ⟨i0, hi0, hz0, hz1, hz2⟩ := info_parts Tryz.infoExpr
  obtain ⟨ra, rc, rfl⟩ := hr.slice
  obtain ⟨n, hn⟩ : ∃ n, n = t.rts.length := ⟨_, rfl⟩
  obtain ⟨wA, hwA⟩ : ∃ wA, wA = w.alloc (.cells #[.int .i64 t.secs, .int .i64 t.pts, .slice ra n rc] 24) := ⟨_, rfl⟩
  have hbA : Below w.heap.size w wA := by rw [hwA]; exact newB _ _
  have HCK := hide (Check_any t (.slice ra n rc) wA (by rw [hn]; exact hr.below hbA))
  have HR := hide hr
  have HN := hide hn
  have hn3 : n ≤ 3 := by rw [hn]; exact f.R3
  rw [← hn] at HR ⊢
  have HB0 := hide hbA
  have HW := hide hwA
  have HF := hide f
  have HGD := hide (good_of f)
  have HCN := hide hck
  have HTA : Hid (∀ W, Below wA.heap.size wA W → W.cell? ⟨w.heap.size, 0, none⟩ = some (.int .i64 t.secs) ∧ W.cell? ⟨w.heap.size, 1, none⟩ = some (.int .i64 t.pts) ∧ W.cell? ⟨w.heap.size, 2, none⟩ = some (.slice ra n rc)) := fun W hW => by
    have rT : RowIs wA w.heap.size 24 [.int .i64 t.secs, .int .i64 t.pts, .slice ra n rc] := by rw [hwA]; exact RowIs.new _ _ _
    exact ⟨kept hW (rT.cell 0 _ rfl), kept hW (rT.cell 1 _ rfl), kept hW (rT.cell 2 _ rfl)⟩
  obtain ⟨ta0, ta1, ta2⟩ := HTA.out wA (Below.refl _ _)
  rw [hwA] at HCK ta0 ta1 ta2
  clear hwA hbA hr hn f hck
  go_enter Tryz.func5, Tryz.ntmps5
  go_wp2_with fail
  refine HCK.out.mono ?_
  rintro e w1 ⟨ev, rfl, her, hb1⟩
  rw [HCN.out] at her
  rw [← HW.out] at hb1
  have HB1 := hide hb1
  obtain ⟨tb0, tb1, tb2⟩ := HTA.out w1 hb1
  clear hb1 HCK ta0 ta1 ta2
  obtain rfl : ev = .nilIface := her
  go_wp2_with fail
  clear tb0 tb1 tb2
  go_loopw [5, 20] (fun pv iv wr => ∃ (k : Nat) (a : Option Addr) (c : Nat), k ≤ n ∧ iv = .int .i64 (k : Int) ∧ pv = .slice a (psTo t k).length c ∧ Hid (PX w1.heap.size wr (.slice a (psTo t k).length c) (psTo t k)) ∧ Hid (Below w1.heap.size w1 wr)) (fun _ iv _ => n - (intOf iv).toNat)
  case atStart => exact ⟨0, none, 0, Nat.zero_le _, rfl, rfl, PX.nil _ _, Below.refl _ _⟩
  case round =>
    obtain ⟨k, pa, pc, hk, rfl, rfl, HX, HB⟩ := hrel
    by_cases hlt : k < n
    · have hkl : k < t.rts.length := by rw [← HN.out]; exact hlt
      have HBA : Hid (∀ W, Below w1.heap.size w1 W → Below wA.heap.size wA W) := fun W hW => then_ HB1.out hW
      obtain ⟨g, o, sa, sc, qa, qc, rfl, c0w, c1w, hIsw, hPsw, _⟩ := ((HR.out.below HB0.out).below HB1.out).cell k _ (rt_at t k hkl)
      have c0 := kept HB.out c0w
      have c1 := kept HB.out c1w
      have hIs := hIsw.below HB.out
      have hPs := hPsw.below HB.out
      have HPW1 := hide hPsw
      clear c0w c1w hIsw hPsw
      have hki : (k : Int) < (n : Int) := by omega
      obtain ⟨wL, hwL⟩ : ∃ wL, wL = wr.alloc (.cells #[.slice sa (rt t k).secs.length sc, .slice qa (rt t k).pts.length qc] 54) := ⟨_, rfl⟩
      have hbL : Below wr.heap.size wr wL := by rw [hwL]; exact newB _ _
      have rL : RowIs wL wr.heap.size 54 [.slice sa (rt t k).secs.length sc, .slice qa (rt t k).pts.length qc] := by rw [hwL]; exact RowIs.new _ _ _
      have HPL := hide (hPs.below hbL)
      have HQ1 := hide (rL.cell 1 _ rfl)
      have HBL := hide (then_ HB.out hbL)
      have HXL := hide (HX.out.below hbL)
      obtain ⟨tc0, tc1, tc2⟩ := HTA.out wL (HBA.out wL HBL.out)
      have HCC := hide (clashing_any t _ k wL ((HR.out.below HB0.out).below (HBA.out wL HBL.out)) hkl HGD.out.small)
      have HWL := hide hwL
      have hwr := hwL
      rw [hwL] at tc0 tc1 tc2 HCC
      have HPSL := hide (psTo_len HF.out k (by rw [← HN.out]; omega))
      have hmem := rt_mem t k hkl
      have HLP := hide (HF.out.lp _ hmem)
      have HPQ := hide (fun q hq => HF.out.pts _ hmem q hq)
      have HCLN : Hid ((clashing t k).length ≤ n) := by have := clashTo_len t k t.rts.length; show _ ≤ _; unfold clashing; rw [HN.out]; exact this
      have HCM : Hid (∀ (j y : Nat), (clashing t k)[j]? = some y → y < 4) := fun j y hy => by
        have hm := List.mem_of_getElem? hy
        unfold clashing clashTo at hm
        have := List.mem_range.1 (List.mem_filter.1 hm).1
        have h3 := HF.out.R3
        omega
      have HCS := hide (clTo_succ t k)
      have HPS := hide (ptTo_succ t k)
      have HPI : Hid (psTo t (k + 1) = (psTo t k ++ clTo t k (clashing t k).length) ++ ptTo t k (rt t k).pts.length) := by show _ = _; rw [psTo_succ, parts_is, List.append_assoc]
      have HCL0 := hide (clTo_le t k)
      have HPT0 := hide (ptTo_len t k)
      have HC00 : Hid (psTo t k = psTo t k ++ clTo t k 0) := by show _ = _; simp [clTo]
      generalize psTo t k = PS at *
      generalize (rt t k).secs.length = n1 at *
      obtain ⟨L, hL⟩ : ∃ L, L = PS.length := ⟨_, rfl⟩
      have HLe := hide hL
      rw [← hL] at HPSL ⊢
      clear hIs hPs hbL rL hmem hL hwL
      go_wp2_with fail
      refine HCC.out.mono ?_
      rw [← HWL.out]
      rintro e w2 ⟨cv, rfl, hcs, hb2⟩
      obtain ⟨ca, cc, rfl⟩ := own_slice hcs
      have HB2 := hide (then_ HBL.out hb2)
      have HX2 := hide (HXL.out.below hb2)
      have HCELL : Hid (∀ (W : World), Below w2.heap.size w2 W → ∀ (j y : Nat), (clashing t k)[j]? = some y → ∃ gC, ca = some ⟨gC, 0, none⟩ ∧ W.cell? ⟨gC, j, none⟩ = some (.int .i64 (y : Int))) := fun W hW j y hy => by
        rcases hcs.2 with ⟨_, h0⟩ | ⟨g', cap', cur, e1, e2, e3, _, _, _, e4⟩
        · rw [List.length_eq_zero_iff.1 h0] at hy; simp at hy
        · simp only [Value.slice.injEq] at e1
          exact ⟨g', e1.1, kept hW (row_cell e3 (by simpa using e4) (by rw [List.getElem?_map, hy]; rfl))⟩
      have hC3 := HCLN.out
      have HCG : Hid (∀ (j : Nat) (h : j < (clashing t k).length), (clashing t k)[j]? = some (clashing t k)[j]) := fun j h => List.getElem?_eq_getElem h
      have hcap : (clashing t k).length ≤ cc ∨ ca = none := by
        rcases hcs.2 with ⟨e1, _⟩ | ⟨g', cap', cur, e1, _, _, e4, _⟩
        · simp only [Value.slice.injEq] at e1; exact .inr e1.1
        · simp only [Value.slice.injEq] at e1; exact .inl (by omega)
      obtain ⟨C, hC⟩ : ∃ C, C = (clashing t k).length := ⟨_, rfl⟩
      have HCe := hide hC
      obtain ⟨Q, hQ⟩ : ∃ Q : Nat → List Ex, Q = fun j => PS ++ clTo t k j := ⟨_, rfl⟩
      have HQ0 : Hid (Q 0 = PS) := by show _ = _; rw [hQ]; exact HC00.out.symm
      have HQS : Hid (∀ (j : Nat) (h : j < (clashing t k).length), Q (j + 1) = Q j ++ (if (clashing t k)[j] < k then [bothE (clashing t k)[j] k] else [])) := fun j h => by rw [hQ]; simp only; rw [HCS.out j h, List.append_assoc]
      have HQL : Hid (∀ j, (Q j).length ≤ L + j) := fun j => by rw [hQ]; simp only [List.length_append]; have := HCL0.out j; have := HLe.out; omega
      have HQC : Hid (PS ++ clTo t k (clashing t k).length = Q C) := by show _ = _; rw [hQ, HCe.out]
      have hLL : L = (Q 0).length := by rw [HQ0.out]; exact HLe.out
      have HX20 : Hid (PX w1.heap.size w2 (.slice pa (Q 0).length pc) (Q 0)) := by rw [HQ0.out]; exact HX2.out
      rw [hLL]
      have HRQ : Hid (∀ W, Below w2.heap.size w2 W → W.cell? ⟨wr.heap.size, 1, none⟩ = some (.slice qa (rt t k).pts.length qc)) := fun W hW => kept (then_ hb2 hW) HQ1.out
      have HPL2 := hide (HPL.out.below hb2)
      rw [← hC] at hC3 hcap ⊢
      have HHB := hide HB.out
      obtain ⟨pb, hpb⟩ : ∃ pb, pb = (Value.slice pa (Q 0).length pc).ownBlock := ⟨_, rfl⟩
      have HPB : Hid (∀ b, pb = some b → w1.heap.size ≤ b ∧ b < wr.heap.size) := fun b e => by
        obtain ⟨us, _, h2, _, _⟩ := HX.out
        rw [hpb, HQ0.out] at e
        exact h2.lt b e
      have HK0 : Hid (KP w2 pb (.slice pa (Q 0).length pc) w2) := by rw [hpb]; exact KP.refl _ _
      have HCELL2 : Hid (∀ (W : World) sv, KP w2 pb sv W → ∀ (j y : Nat), (clashing t k)[j]? = some y → ∃ gC, ca = some ⟨gC, 0, none⟩ ∧ W.cell? ⟨gC, j, none⟩ = some (.int .i64 (y : Int))) := fun W sv hW j y hy => by
        rcases hcs.2 with ⟨_, h0⟩ | ⟨g', cap', cur, e1, e2, e3, _, _, _, e4⟩
        · rw [List.length_eq_zero_iff.1 h0] at hy; simp at hy
        · simp only [Value.slice.injEq] at e1
          refine ⟨g', e1.1, hW.cell (row_cell e3 (by simpa using e4) (by rw [List.getElem?_map, hy]; rfl)) (fun e => ?_)⟩
          have h1 := (HPB.out g' e.symm).2
          have h2 : wr.heap.size < wL.heap.size := World.block_lt_of_cell? _ _ HQ1.out
          have h3 : wL.heap.size ≤ g' := e2
          omega
      have HRQ2 : Hid (∀ (W : World) sv, KP w2 pb sv W → W.cell? ⟨wr.heap.size, 1, none⟩ = some (.slice qa (rt t k).pts.length qc)) := fun W sv hW => hW.cell (kept hb2 HQ1.out) (fun e => by have := (HPB.out _ e.symm).2; exact absurd this (Nat.lt_irrefl _))
      have HPP : Hid (∀ (W : World) sv, KP w2 pb sv W → Below w1.heap.size w1 W) := fun W sv hW => hW.low HB2.out (fun b e => (HPB.out b e).1)
      clear hcs hb2 HCC HXL HX2 tc0 tc1 tc2 c0 c1 hLL hC HX hQ HB hpb HCELL HRQ
      go_wp2_with fail
      go_loopw [5, 29] (fun pv jv wj => ∃ (j : Nat) (a : Option Addr) (c : Nat), j ≤ C ∧ jv = .int .i64 (j : Int) ∧ pv = .slice a (Q j).length c ∧ Hid (PX w1.heap.size wj (.slice a (Q j).length c) (Q j)) ∧ Hid (KP w2 pb (.slice a (Q j).length c) wj)) (fun _ jv _ => C - (intOf jv).toNat)
      case atStart => exact ⟨0, pa, pc, Nat.zero_le _, rfl, rfl, HX20.out, HK0.out⟩
      case round =>
        obtain ⟨wj, hwj⟩ : ∃ wj, wj = wr := ⟨wr, rfl⟩
        obtain ⟨j, ja, jc, hj, rfl, rfl, HXj, HBj⟩ := hrel
        have hQl := HQL.out j
        have hPSl := HPSL.out
        by_cases hjC : j < C
        · have hjl : j < (clashing t k).length := by rw [← HCe.out]; exact hjC
          have hcy := HCG.out j hjl
          obtain ⟨gC, rfl, y0⟩ := HCELL2.out _ _ HBj.out j _ hcy
          have hy4 := HCM.out j _ hcy
          have HQn := hide (HQS.out j hjl)
          have hcap2 : C ≤ cc := by rcases hcap with h | h; exact h; cases h
          generalize (clashing t k)[j] = y at *
          clear hcy
          by_cases hyk : y < k
          · rw [if_pos hyk] at HQn
            have hyk2 : (y : Int) < (k : Int) := by omega
            obtain ⟨us, u1, u2, u3, u4⟩ := HXj.out
            have HI1 := hide (fun W => is_any 108 y hy4 W)
            have HI2 := hide (fun W => is_any 108 k (by omega) W)
            obtain ⟨wa, hwa⟩ : ∃ wa, wa = wr.alloc (.cells #[bitV 108 y, bitV 108 k] 34) := ⟨_, rfl⟩
            have hba : Below wr.heap.size wr wa := by rw [hwa]; exact newB _ _
            have HAL := hide (all_any [bitV 108 y, bitV 108 k] _ _ (two_vs wr _ _ ⟨_, _, rfl⟩ ⟨_, _, rfl⟩) (by simp))
            have HAV : Hid (allV (.slice (some ⟨wr.heap.size, 0, none⟩) 2 2) [bitV 108 y, bitV 108 k] = .iface 101 (.slice (some ⟨wr.heap.size, 0, none⟩) 2 2)) := rfl
            rw [HAV.out] at HAL
            have hlb : ∀ b, (Value.slice ja (Q j).length jc).ownBlock = some b → b < wr.heap.size := fun b e => (u2.lt b e).2
            have HE : Hid (IsEx (fun g => some g ≠ (Value.slice ja (Q j).length jc).ownBlock) wa (bothE y k) (.iface 59 (.agg #[.iface 101 (.slice (some ⟨wr.heap.size, 0, none⟩) 2 2)]))) := by
              refine not_of (and_of rfl (by simp) (by simp) (by simp) (fun e => by have := hlb _ e.symm; omega) (fun k x hx => ?_))
              rw [hwa]
              match k, hx with
              | 0, hx => simp at hx; subst hx; exact ⟨_, by simp, bit_of _ _ _ _⟩
              | 1, hx => simp at hx; subst hx; exact ⟨_, by simp, bit_of _ _ _ _⟩
              | k + 2, hx => simp at hx
            obtain ⟨nv, hnv⟩ : ∃ nv, nv = Value.iface 59 (.agg #[.iface 101 (.slice (some ⟨wr.heap.size, 0, none⟩) 2 2)]) := ⟨_, rfl⟩
            rw [← hnv] at HE
            have hnvi : ∃ tt xx, nv = .iface tt xx := ⟨_, _, hnv⟩
            obtain ⟨wb, hwb⟩ : ∃ wb, wb = wa.alloc (.cells #[nv] 34) := ⟨_, rfl⟩
            have hbb : Below wa.heap.size wa wb := by rw [hwb]; exact newB _ _
            have hbrb := then_ hba hbb
            have HOWN : Hid (wb.ownsRow w1.heap.size 34 1 (.slice ja (Q j).length jc) (Q j).length us) := own_below u2 hbrb
            have HONE : Hid (∀ z ∈ [nv], z.oneCell' = true) := by
              intro z hz
              simp only [List.mem_cons, List.not_mem_nil, or_false] at hz
              subst hz
              rw [hnv]; rfl
            have HBb : Hid (KP w2 pb (.slice ja (Q j).length jc) wb) := HBj.out.below hbrb
            have HFIN : Hid (∀ (g2 cap2 : Nat) (wC : World), wC.ownsRow w1.heap.size 34 1 (.slice (some ⟨g2, 0, none⟩) ((Q j).length + 1) cap2) ((Q j).length + 1) (us ++ [nv]) → wb.grownBy wC (Value.slice ja (Q j).length jc).ownBlock → ((Value.slice ja (Q j).length jc).ownBlock = some g2 ∨ g2 = wb.heap.size) → PX w1.heap.size wC (.slice (some ⟨g2, 0, none⟩) (Q (j + 1)).length cap2) (Q (j + 1)) ∧ KP w2 pb (.slice (some ⟨g2, 0, none⟩) (Q (j + 1)).length cap2) wC) := fun g2 cap2 wC q1 q2 q3 => by
              refine ⟨?_, HBb.out.grow q2 q3⟩
              rw [HQn.out]
              refine PX.push (vs := [nv]) (ys := [bothE y k]) u1 u3 (fun k x u hx hu => IsEx.stay (Stay.below hbrb) (fun _ hg => hg) x u (u4 k x u hx hu)) rfl (fun u hu => by simp at hu; subst hu; exact hnvi) (fun k x u hx hu => ?_) (by simpa using q1) q2 q3
              match k, hx, hu with
              | 0, hx, hu => simp at hx hu; subst hx; subst hu; exact IsEx.stay (Stay.below hbb) (fun _ hg => hg) _ _ HE.out
              | k + 1, hx, _ => simp at hx
            have HQ1L : Hid ((Q (j + 1)).length = (Q j).length + 1) := by show _ = _; rw [HQn.out]; simp
            have HNB : Hid (wb.heap[wa.heap.size]? = some (.cells #[nv] 34)) := by show _ = _; rw [hwb]; exact heap_alloc_new _ _
            have HSZ : Hid (wb.heap.size = wa.heap.size + 1) := by show _ = _; rw [hwb]; simp
            have HWA := hide hwa
            have HWB := hide hwb
            have HLO : Hid (w1.heap.size ≤ wb.heap.size) := (HPP.out _ _ HBb.out).size
            have HBITS : Hid (∃ b1 b2, bitV 108 y = .iface 102 b1 ∧ bitV 108 k = .iface 102 b2) := ⟨_, _, rfl, rfl⟩
            obtain ⟨b1, b2, hb1e, hb2e⟩ := HBITS.out
            rw [hb1e] at HI1 HAL HWA
            rw [hb2e] at HI2 HAL HWA
            rw [← HWA.out] at HAL
            rw [hnv] at HWB HONE HNB HFIN
            have hlo := HLO.out
            have hsz := HSZ.out
            have hQle := HQL.out j
            generalize (Q j).length = LJ at *
            clear hwa hba hwb hbb hbrb hb1e hb2e hnv hnvi HE HXj u1 u2 u3 u4 HQn hlb HAV HBITS hsz
            go_wp2_with fail
            refine (HI1.out _).mono ?_
            rintro e z1 ⟨rfl, hz1e⟩
            obtain rfl := hz1e.symm
            go_wp2_with fail
            refine (HI2.out _).mono ?_
            rintro e z2 ⟨rfl, hz2e⟩
            obtain rfl := hz2e.symm
            go_wp2_with fail
            rw [← HWA.out]
            refine HAL.out.mono ?_
            rintro e z3 ⟨rfl, hz3e⟩
            obtain rfl := hz3e.symm
            rw [HWB.out] at HOWN HNB HFIN HLO
            go_wp2_with (at_builtin; refine wpList_append_lies _ rfl (.tmp 36) (.tmp 45) 51 rfl w1.heap.size 34 i0 _ 1 16 Tryz.underlying51 hi0 hz0 hz1 hz2 rfl (by decide) (.slice ja LJ jc) LJ us rfl HOWN.out ⟨wa.heap.size, 0, none⟩ 1 1 [.iface 59 (.agg #[.iface 101 (.slice (some ⟨wr.heap.size, 0, none⟩) 2 2)])] rfl rfl (World.news_of_block HNB.out) (HONE.out) (by decide) (by unfold maxLen; omega) (by omega) HLO.out _ rfl ?_; intro g2 cap2 wC hown hgrow hat hltg; obtain ⟨hpx, hkp⟩ := HFIN.out g2 cap2 wC hown hgrow hat; have HPX := hide hpx; have HKP := hide hkp; clear hpx hkp hown hgrow hat)
            go_roundw
            case rel => exact ⟨j + 1, some ⟨g2, 0, none⟩, cap2, by omega, by go_num, by rw [HQ1L.out], HPX.out, HKP.out⟩
            case measure => simp [intOf]; omega
          · rw [if_neg hyk, List.append_nil] at HQn
            have hyk2 : ¬ (y : Int) < (k : Int) := by omega
            have HXn : Hid (PX w1.heap.size wr (.slice ja (Q (j + 1)).length jc) (Q (j + 1))) := by rw [HQn.out]; exact HXj.out
            have HKn : Hid (KP w2 pb (.slice ja (Q (j + 1)).length jc) wr) := by rw [HQn.out]; exact HBj.out
            rw [← HQn.out]
            clear HQn
            go_wp2_with fail
            go_roundw
            case rel => exact ⟨j + 1, ja, jc, by omega, by go_num, rfl, HXn.out, HKn.out⟩
            case measure => simp [intOf]; omega
        · have HJC : Hid (j = C) := by show _ = _; omega
          obtain ⟨RR, hRR⟩ : ∃ RR : Nat → List Ex, RR = fun m => Q j ++ ptTo t k m := ⟨_, rfl⟩
          have HR0 : Hid (RR 0 = Q j) := by show _ = _; rw [hRR]; simp [ptTo]
          have HRS : Hid (∀ (m : Nat) (h : m < (rt t k).pts.length), RR (m + 1) = RR m ++ [liesE k (rt t k).pts[m], restsE k (rt t k).pts[m]]) := fun m h => by rw [hRR]; simp only; rw [HPS.out m h, List.append_assoc]
          have HRL : Hid (∀ m, (RR m).length ≤ L + 3 + 2 * m) := fun m => by
            rw [hRR]; simp only [List.length_append]
            have h1 := HPT0.out m
            have h2 := HQL.out j
            have h3 := HJC.out
            omega
          have HRE : Hid (psTo t (k + 1) = RR (rt t k).pts.length) := by show _ = _; rw [HPI.out, HQC.out, hRR, HJC.out]
          have m0 := HRQ2.out wr _ HBj.out
          have HX30 : Hid (PX w1.heap.size wr (.slice ja (RR 0).length jc) (RR 0)) := by rw [HR0.out]; exact HXj.out
          have HK30 : Hid (KP w2 pb (.slice ja (RR 0).length jc) wr) := by rw [HR0.out]; exact HBj.out
          rw [← HR0.out]
          have hnp := HLP.out
          have HPG : Hid (∀ (m : Nat) (h : m < (rt t k).pts.length), (rt t k).pts[m]? = some (rt t k).pts[m]) := fun m h => List.getElem?_eq_getElem h
          have HPQ2 : Hid (∀ (m : Nat) (h : m < (rt t k).pts.length), 0 ≤ ((rt t k).pts[m]).1 ∧ ((rt t k).pts[m]).1 < 4) := fun m h => by
            have h1 := HPQ.out _ (List.getElem_mem h)
            have h2 := HF.out.P2
            omega
          obtain ⟨np, hnpe⟩ : ∃ np, np = (rt t k).pts.length := ⟨_, rfl⟩
          have HNP := hide hnpe
          rw [← hnpe] at hnp m0
          clear hRR hnpe
          go_wp2_with fail
          clear m0
          go_loopw [5, 51] (fun pv mv wm => ∃ (m : Nat) (a : Option Addr) (c : Nat), m ≤ np ∧ mv = .int .i64 (m : Int) ∧ pv = .slice a (RR m).length c ∧ Hid (PX w1.heap.size wm (.slice a (RR m).length c) (RR m)) ∧ Hid (KP w2 pb (.slice a (RR m).length c) wm)) (fun _ mv _ => np - (intOf mv).toNat)
          case atStart => exact ⟨0, ja, jc, Nat.zero_le _, rfl, rfl, HX30.out, HK30.out⟩
          case round =>
            obtain ⟨wm, hwm⟩ : ∃ wm, wm = wr := ⟨wr, rfl⟩
            obtain ⟨m, ma, mc, hm, rfl, rfl, HXm, HKm⟩ := hrel
            have hRl := HRL.out m
            have hPSl2 := HPSL.out
            by_cases hmn : m < np
            · have hml : m < (rt t k).pts.length := by rw [← HNP.out]; exact hmn
              have hpq := HPQ2.out m hml
              have HRn := hide (HRS.out m hml)
              obtain ⟨g3, o3, hqa, p0, p1, _⟩ := HPW1.out.cell m _ (HPG.out m hml)
              have hB1m := HPP.out _ _ HKm.out
              have p0 := kept hB1m p0
              have p1 := kept hB1m p1
              obtain ⟨us, u1, u2, u3, u4⟩ := HXm.out
              generalize (rt t k).pts[m] = q at *
              obtain ⟨q1, qb⟩ := q
              obtain ⟨pn, rfl⟩ : ∃ pn : Nat, q1 = (pn : Int) := ⟨q1.toNat, by have := hpq.1; simp only at this; omega⟩
              have hpn : pn < 4 := by have := hpq.2; simp only at this; omega
              simp only at p0 p1
              have hRq : RR (m + 1) = RR m ++ [liesE k ((pn : Int), qb), restsE k ((pn : Int), qb)] := HRn.out
              obtain ⟨wp, hwp⟩ : ∃ wp, wp = wr.alloc (.cells #[.int .i64 (pn : Int), .bool qb] 61) := ⟨_, rfl⟩
              have hbp : Below wr.heap.size wr wp := by rw [hwp]; exact newB _ _
              have rT : RowIs wp wr.heap.size 61 [.int .i64 (pn : Int), .bool qb] := by rw [hwp]; exact RowIs.new _ _ _
              have f0 := rT.cell 0 _ rfl
              have f1 := rT.cell 1 _ rfl
              have HKE : Hid (∀ W, Below wp.heap.size wp W → W.cell? ⟨wr.heap.size, 0, none⟩ = some (.int .i64 (pn : Int)) ∧ W.cell? ⟨wr.heap.size, 1, none⟩ = some (.bool qb)) := fun W hW => ⟨kept hW f0, kept hW f1⟩
              have HD := hide (drewS wp)
              have HLI := hide (fun W => lies_any k pn qb (by omega) hpn W)
              have HRI := hide (fun W => rests_any k pn qb (by omega) hpn W)
              have HBP := hide hbp
              have HOB : Hid (∀ b, (Value.slice ma (RR m).length mc).ownBlock = some b → b < wp.heap.size) := fun b e => Nat.lt_of_lt_of_le (u2.lt b e).2 hbp.size
              have HFIN : Hid (∀ (W4 W5 : World) (va vb : Value) (g2 cap2 : Nat) (wC : World), Below wp.heap.size wp W4 → Below W4.heap.size W4 W5 → (∃ tt xx, va = .iface tt xx) → (∃ tt xx, vb = .iface tt xx) → IsEx (fun g => wp.heap.size ≤ g) W4 (liesE k ((pn : Int), qb)) va → IsEx (fun g => W4.heap.size ≤ g) W5 (restsE k ((pn : Int), qb)) vb →
                  wC.ownsRow w1.heap.size 34 1 (.slice (some ⟨g2, 0, none⟩) ((RR m).length + 2) cap2) ((RR m).length + 2) (us ++ [va, vb]) → (W5.alloc (.cells #[va, vb] 34)).grownBy wC (Value.slice ma (RR m).length mc).ownBlock → ((Value.slice ma (RR m).length mc).ownBlock = some g2 ∨ g2 = (W5.alloc (.cells #[va, vb] 34)).heap.size) →
                  PX w1.heap.size wC (.slice (some ⟨g2, 0, none⟩) (RR (m + 1)).length cap2) (RR (m + 1)) ∧ KP w2 pb (.slice (some ⟨g2, 0, none⟩) (RR (m + 1)).length cap2) wC) := fun W4 W5 va vb g2 cap2 wC h45 h56 hva hvb hea heb q1 q2 q3 => by
                have hb6 : Below W5.heap.size W5 (W5.alloc (.cells #[va, vb] 34)) := newB _ _
                have hall := then_ (then_ (then_ hbp h45) h56) hb6
                refine ⟨?_, (HKm.out.below hall).grow q2 q3⟩
                rw [hRq]
                refine PX.push (vs := [va, vb]) (ys := [liesE k ((pn : Int), qb), restsE k ((pn : Int), qb)]) u1 u3 (fun k x u hx hu => IsEx.stay (Stay.below hall) (fun _ hg => hg) x u (u4 k x u hx hu)) rfl (fun u hu => by simp at hu; rcases hu with rfl | rfl; exact hva; exact hvb) (fun k x u hx hu => ?_) (by simpa using q1) q2 q3
                match k, hx, hu with
                | 0, hx, hu =>
                  simp at hx hu; subst hx; subst hu
                  exact IsEx.stay (Stay.below (then_ h56 hb6)) (fun g hg e => by have := HOB.out g e.symm; omega) _ _ hea
                | 1, hx, hu =>
                  simp at hx hu; subst hx; subst hu
                  exact IsEx.stay (Stay.below hb6) (fun g hg e => by have h1 := HOB.out g e.symm; have h2 := h45.size; omega) _ _ heb
                | k + 2, hx, _ => simp at hx
              have HNEB : Hid (some wr.heap.size ≠ (Value.slice ma (RR m).length mc).ownBlock) := fun e => absurd (u2.lt _ e.symm).2 (Nat.lt_irrefl _)
              have HOWN : Hid (∀ W, Below wp.heap.size wp W → W.ownsRow w1.heap.size 34 1 (.slice ma (RR m).length mc) (RR m).length us) := fun W hW => own_below u2 (then_ hbp hW)
              have HR1L : Hid ((RR (m + 1)).length = (RR m).length + 2) := by show _ = _; rw [hRq]; simp
              have HLO : Hid (∀ W, Below wp.heap.size wp W → w1.heap.size ≤ W.heap.size) := fun W hW => Nat.le_trans hB1m.size (then_ hbp hW).size
              have HWP := hide hwp
              have hRl2 : (RR m).length ≤ 1000 := by omega
              subst hqa
              generalize (RR m).length = LM at *
              clear hwp hbp rT f0 f1 u1 u2 u3 u4 HXm hRq HRn hB1m hpq
              go_upto_region 17 with fail
              rw [← HWP.out]
              have HONE : Hid (∀ ta ya tb yb, ∀ u ∈ [Value.iface ta ya, Value.iface tb yb], u.oneCell' = true) := fun ta ya tb yb u hu => by
                simp only [List.mem_cons, List.not_mem_nil, or_false] at hu
                rcases hu with rfl | rfl <;> rfl
              have hm1 : LM + 2 ≤ maxLen := by unfold maxLen; omega
              have hm2 : (LM + 2) * 16 ≤ 140737488355328 := by omega
              go_region_held3 (fun W => W.cell? ⟨wr.heap.size, 0, none⟩ = some (.int .i64 (pn : Int)) ∧ W.cell? ⟨wr.heap.size, 1, none⟩ = some (.bool qb)) ((first | exact HSC.out | (refine HKE.out _ ?_; first | exact HD.out | exact Below.refl _ _ | exact HB4.out | exact HB5.out | exact HB6.out))) ((first
                | (go_at_call 18; (with_reducible refine (HLI.out _).mono ?_); rintro e x4 ⟨va, rfl, hea, hb4⟩; obtain ⟨ta, ya, hia⟩ := IsEx.iface _ va hea; subst hia; have HEA := hide hea; have HB4 : Hid (Below wp.heap.size wp x4) := HD.out.trans hb4; clear hea hb4)
                | (go_at_call 19; (with_reducible refine (HRI.out _).mono ?_); rintro e x5 ⟨vb, rfl, heb, hb5⟩; obtain ⟨tb, yb, hib⟩ := IsEx.iface _ vb heb; subst hib; have HEB := hide heb; have HB45 := hide hb5; have HB5 : Hid (Below wp.heap.size wp x5) := then_ HB4.out hb5; have HB6 : Hid (Below wp.heap.size wp (x5.alloc (.cells #[.iface ta ya, .iface tb yb] 34))) := HB5.out.alloc HB5.out.size _; clear heb hb5)
                | (refine step_append_lies _ rfl (.tmp 55) (.tmp 63) 51 rfl w1.heap.size 34 i0 _ 1 16 Tryz.underlying51 hi0 hz0 hz1 hz2 rfl Nat.one_pos (.slice ma LM mc) LM us rfl (HOWN.out _ HB6.out) ⟨x5.heap.size, 0, none⟩ 2 2 [.iface ta ya, .iface tb yb] rfl rfl (World.news_of_block (heap_alloc_new x5 _)) (HONE.out ta ya tb yb) Nat.two_pos hm1 hm2 (HLO.out _ HB6.out) _ rfl ?_; intro g2 cap2 wC hown hgrow hat hltg; obtain ⟨hpx, hkp⟩ := HFIN.out x4 x5 _ _ g2 cap2 wC HB4.out HB45.out ⟨_, _, rfl⟩ ⟨_, _, rfl⟩ HEA.out HEB.out hown hgrow hat; have HPX := hide hpx; have HKP := hide hkp; have HSC : Hid (wC.cell? ⟨wr.heap.size, 0, none⟩ = some (.int .i64 (pn : Int)) ∧ wC.cell? ⟨wr.heap.size, 1, none⟩ = some (.bool qb)) := ⟨hgrow.cell (HKE.out _ HB6.out).1 HNEB.out, hgrow.cell (HKE.out _ HB6.out).2 HNEB.out⟩; clear hpx hkp hown hgrow hat)))
              go_wp2_with fail
              go_roundw
              case rel => exact ⟨m + 1, some ⟨g2, 0, none⟩, cap2, by omega, by go_num, by rw [HR1L.out], HPX.out, HKP.out⟩
              case measure => simp [intOf]; omega
            · have HMN : Hid (m = np) := by show _ = _; omega
              have HPE : Hid (psTo t (k + 1) = RR m) := by show _ = _; rw [HRE.out, ← HNP.out, HMN.out]
              have HXF : Hid (PX w1.heap.size wr (.slice ma (psTo t (k + 1)).length mc) (psTo t (k + 1))) := by rw [HPE.out]; exact HXm.out
              have HBF := hide (HPP.out _ _ HKm.out)
              rw [← HPE.out]
              clear HPE HRE
              go_wp2_with fail
              go_roundw
              case rel => exact ⟨k + 1, ma, mc, by omega, by go_num, rfl, HXF.out, HBF.out⟩
              case measure => simp [intOf]; omega
    · have hkn : k = n := by omega
      subst hkn
      have HSE : Hid (safeE t = allE0 (psTo t k)) := by show _ = _; rw [HN.out]; rfl
      have hpl := psTo_len HF.out k (by rw [← HN.out]; exact Nat.le_refl _)
      have HAL := hide (allP_any w1.heap.size _ (psTo t k) wr HX.out (by omega))
      rw [← HSE.out] at HAL
      have HBF := hide (then_ HB0.out (then_ HB1.out HB.out))
      generalize (psTo t k).length = L at *
      go_wp2_with fail
      refine HAL.out.mono ?_
      rintro e w2 ⟨v, rfl, hv, hw2⟩
      obtain rfl := hw2.symm
      have HV := hide hv
      obtain ⟨tv, yv, hiv⟩ := IsEx.iface _ v hv
      subst hiv
      clear hv HAL
      go_wp2_with fail
      go_ret2
      exact ⟨_, rfl, HV.out, HBF.out⟩
end Ro
end Go.Proofs.YtgdmohombcgjbaaGreatDoor
