/-
  The walk of the document's own check of tracks.
-/
import Derived.Test.YtmniiclmimidjaaDoorRjBase
namespace Go.Proofs.YtmniiclmimidjaaDoor
namespace Ro
open Go.RowKit
def FineAt (w : World) : Prop := w.cell? ⟨0, 0, none⟩ = some (.int .i64 0) ∧ w.cell? ⟨0, 1, none⟩ = some (.int .i64 (-1))
theorem FineAt.below {w w' : World} (h : FineAt w) (hb : Below w.heap.size w w') : FineAt w' := ⟨kept hb h.1, kept hb h.2⟩
theorem any_take_hit {α : Type} (f : α → Bool) (l : List α) (j : Nat) (h : j < l.length) (hf : f l[j] = true) : l.any f = true := List.any_eq_true.2 ⟨_, List.getElem_mem h, hf⟩
theorem any_take_succ {α : Type} (f : α → Bool) (l : List α) (j : Nat) (h : j < l.length) (h0 : (l.take j).any f = false) (hf : f l[j] = false) : (l.take (j + 1)).any f = false := by
  rw [List.take_succ_eq_append_getElem h, List.any_append, h0]
  simp [hf]
theorem twice_hit (l : List Int) (j : Nat) (h : j < l.length) (hc : (l.take j).contains l[j] = true) : twice l = true := by
  unfold twice
  rw [Bool.not_eq_true', decide_eq_false_iff_not]
  intro hd
  have h1 : (l.take (j + 1)).Nodup := hd.sublist (List.take_sublist _ _)
  rw [take_nodup l j h, hc] at h1
  cases h1.2
theorem twice_none (l : List Int) (h : l.Nodup) : twice l = false := by unfold twice; rw [decide_eq_true h]; rfl
theorem drewN_c (w : World) (n : Nat) : Below w.heap.size w (w.drewN n) := ⟨rfl, rfl, rfl, Nat.le_refl _, fun _ _ => rfl⟩
theorem hit_contains (l : List Int) (i j : Nat) (hij : i < j) (hj : j < l.length) (e : l[i] = l[j]) : (l.take j).contains l[j] = true := by
  rw [List.contains_iff_mem, ← e]
  exact List.mem_take_iff_getElem.2 ⟨i, by omega, rfl⟩
theorem Ints.cap {w : World} {a : Option Addr} {n c : Nat} {l : List Int} (h : Ints w (.slice a n c) l) (h0 : 0 < l.length) : n ≤ c ∧ n = l.length := by
  obtain ⟨a', c', h1, h2, h3⟩ := h
  simp only [Value.slice.injEq] at h1
  obtain ⟨g', o', e1, e2, e3⟩ := h3 0 _ (List.getElem?_eq_getElem (by omega))
  omega
set_option maxHeartbeats 16000000 in
set_option maxRecDepth 100000 in
theorem TrackCheck_any (t : Tbl) (rv : Value) (w : World) (hr : Rrs w rv (t.rts.map refR)) (hF : FineAt w) :
    Calls Tryd.prog 5 #[.agg #[.int .i64 t.secs, .int .i64 t.pts, rv]] w fun e w' => e = .returned (.agg #[.int .i64 (flt (check t)).1, .int .i64 (flt (check t)).2]) ∧ Below w.heap.size w w' := by
  obtain ⟨ra, rc, rfl⟩ := hr.slice
  have hlen := hr.len
  unfold maxLen at hlen
  obtain ⟨n, hn⟩ : ∃ n, n = (t.rts.map refR).length := ⟨_, rfl⟩
  have hn' : n = t.rts.length := by rw [hn, List.length_map]
  obtain ⟨wA, hwA⟩ : ∃ wA, wA = (w.alloc (.cells #[.int .i64 t.secs, .int .i64 t.pts, .slice ra n rc] 27)).alloc (.cells #[.int .i64 0, .int .i64 0] 32) := ⟨_, rfl⟩
  have hbA : Below w.heap.size w wA := by rw [hwA]; exact then_ (newB _ _) (newB _ _)
  have rT : RowIs wA w.heap.size 27 [.int .i64 t.secs, .int .i64 t.pts, .slice ra n rc] := by rw [hwA]; exact (RowIs.new _ _ _).alloc _
  have rF : RowIs wA (w.heap.size + 1) 32 [.int .i64 0, .int .i64 0] := by
    rw [hwA]
    have := RowIs.new (w.alloc (.cells #[.int .i64 t.secs, .int .i64 t.pts, .slice ra n rc] 27)) 32 [.int .i64 0, .int .i64 0]
    rw [World.size_alloc] at this
    exact this
  have HRA := hide (hr.below hbA)
  have HB := hide hbA
  have HW := hide hwA
  have HI := hide within_any
  have HAB := hide abs_any
  have HCK : Hid (sized t = false → check t = some (4, none)) := fun h => by unfold check; rw [if_pos h]
  have HN := hide hn
  have HN2 := hide hn'
  have HSZ : Hid (sized t = (fromTo 1 3 t.secs && (fromTo 0 2 t.pts && fromTo 1 3 (n : Int)))) := by show _ = _; rw [hn']; rfl
  rw [← hn] at HRA hlen ⊢
  have HKT : Hid (∀ W, Below wA.heap.size wA W → W.cell? ⟨w.heap.size, 0, none⟩ = some (.int .i64 t.secs) ∧ W.cell? ⟨w.heap.size, 1, none⟩ = some (.int .i64 t.pts) ∧ W.cell? ⟨w.heap.size, 2, none⟩ = some (.slice ra n rc)) := fun W hW => ⟨kept hW (rT.cell 0 _ rfl), kept hW (rT.cell 1 _ rfl), kept hW (rT.cell 2 _ rfl)⟩
  have HPC : Hid (∀ W, Below wA.heap.size wA W → W.cell? ⟨w.heap.size + 1, 0, none⟩ = some (.int .i64 0) ∧ W.cell? ⟨w.heap.size + 1, 1, none⟩ = some (.int .i64 0) ∧ W.frozen? ⟨w.heap.size + 1, 0, none⟩ = false ∧ W.frozen? ⟨w.heap.size + 1, 1, none⟩ = false ∧ w.heap.size + 1 < W.heap.size) := fun W hW => by
    have h := rF.below hW
    exact ⟨h.cell 0 _ rfl, h.cell 1 _ rfl, h.frozen 0, h.frozen 1, h.lt⟩
  have HFIN : Hid (∀ W, Below wA.heap.size wA W → ∀ x y : Value, ((W.setCell ⟨w.heap.size + 1, 0, none⟩ x).setCell ⟨w.heap.size + 1, 1, none⟩ y).cell? ⟨w.heap.size + 1, 0, none⟩ = some x ∧ ((W.setCell ⟨w.heap.size + 1, 0, none⟩ x).setCell ⟨w.heap.size + 1, 1, none⟩ y).cell? ⟨w.heap.size + 1, 1, none⟩ = some y ∧ Below w.heap.size w ((W.setCell ⟨w.heap.size + 1, 0, none⟩ x).setCell ⟨w.heap.size + 1, 1, none⟩ y)) := fun W hW x y => by
    have h := rF.below hW
    exact ⟨cell_set_other _ _ _ _ _ _ (by decide) (World.cell?_setCell_same _ _ _ (h.cell 0 _ rfl)), World.cell?_setCell_same _ _ _ (cell_set_other _ _ _ _ _ _ (by decide) (h.cell 1 _ rfl)), ((then_ HB.out hW).setCell (Nat.le_succ _) _).setCell (Nat.le_succ _) _⟩
  have HFA : Hid (∀ W, Below wA.heap.size wA W → FineAt W) := fun W hW => (hF.below hbA).below hW
  have hwl : w.heap.size + 1 < wA.heap.size := rF.lt
  have x0 := rT.cell 0 _ rfl
  have x1 := rT.cell 1 _ rfl
  have x2 := rT.cell 2 _ rfl
  clear hwA hbA rT rF hr hn hn' hF
  go_enter Tryd.func5, Tryd.ntmps5
  rw [HW.out] at x0
  go_wp2_with fail
  rw [← HW.out]
  rw [← HW.out] at x0
  clear HW
  refine (HI.out _ _ _ _).mono ?_
  rintro e w1 ⟨rfl, hw1⟩
  obtain rfl := hw1.symm
  cases hq1 : fromTo 1 3 t.secs with
  | false =>
    have HX : Hid (check t = some (4, none)) := HCK.out (by rw [HSZ.out, hq1]; rfl)
    clear hq1
    go_wp2_with fail
    refine (bareF_any 4 wA).mono ?_
    rintro e w1 ⟨rfl, hb1⟩
    obtain ⟨z0, z1, z2⟩ := HFIN.out w1 hb1 (.int .i64 4) (.int .i64 (-1))
    obtain ⟨f0, f1, f2, f3, f4⟩ := HPC.out w1 hb1
    go_wp2_with fail
    refine bodyPost_ret_by (v := .agg #[.int .i64 4, .int .i64 (-1)]) ?_ rfl ?_
    · simp [results, Tryd.results5, go_sem, z0, z1]
    · exact ⟨by rw [HX.out]; rfl, z2⟩
  | true =>
    have HQ1 := hide hq1
    clear hq1
    go_wp2_with fail
    refine (HI.out _ _ _ _).mono ?_
    rintro e w1 ⟨rfl, hw1⟩
    obtain rfl := hw1.symm
    cases hq2 : fromTo 0 2 t.pts with
    | false =>
      have HX : Hid (check t = some (4, none)) := HCK.out (by rw [HSZ.out, HQ1.out, hq2]; rfl)
      clear hq2
      go_wp2_with fail
      refine (bareF_any 4 wA).mono ?_
      rintro e w1 ⟨rfl, hb1⟩
      obtain ⟨z0, z1, z2⟩ := HFIN.out w1 hb1 (.int .i64 4) (.int .i64 (-1))
      obtain ⟨f0, f1, f2, f3, f4⟩ := HPC.out w1 hb1
      go_wp2_with fail
      refine bodyPost_ret_by (v := .agg #[.int .i64 4, .int .i64 (-1)]) ?_ rfl ?_
      · simp [results, Tryd.results5, go_sem, z0, z1]
      · exact ⟨by rw [HX.out]; rfl, z2⟩
    | true =>
      have HQ2 := hide hq2
      clear hq2
      go_wp2_with fail
      refine (HI.out _ _ _ _).mono ?_
      rintro e w1 ⟨rfl, hw1⟩
      obtain rfl := hw1.symm
      cases hq3 : fromTo 1 3 (n : Int) with
      | false =>
        have HX : Hid (check t = some (4, none)) := HCK.out (by rw [HSZ.out, HQ1.out, HQ2.out, hq3]; rfl)
        clear hq3
        go_wp2_with fail
        refine (bareF_any 4 wA).mono ?_
        rintro e w1 ⟨rfl, hb1⟩
        obtain ⟨z0, z1, z2⟩ := HFIN.out w1 hb1 (.int .i64 4) (.int .i64 (-1))
        obtain ⟨f0, f1, f2, f3, f4⟩ := HPC.out w1 hb1
        go_wp2_with fail
        refine bodyPost_ret_by (v := .agg #[.int .i64 4, .int .i64 (-1)]) ?_ rfl ?_
        · simp [results, Tryd.results5, go_sem, z0, z1]
        · exact ⟨by rw [HX.out]; rfl, z2⟩
      | true =>
        have HSD : Hid (sized t = true) := by show _ = _; rw [HSZ.out, HQ1.out, HQ2.out, hq3]; rfl
        have hsd := (sized_iff t).1 HSD.out
        rw [← HN2.out] at hsd
        obtain ⟨⟨hs1, hs3⟩, ⟨hp0, hp2⟩, hn1, hn3⟩ := hsd
        have HCK2 : Hid (check t = badAt t (firstBad t)) := by show _ = _; unfold check; rw [if_neg (by rw [HSD.out]; decide)]
        clear hq3 HCK HSZ HQ1 HQ2 x0 x1
        go_wp2_with fail
        clear x2
        go_loopw [38] (fun iv wr => ∃ k : Nat, k ≤ n ∧ iv = .int .i64 (k : Int) ∧ Hid (∀ (j : Nat) r, j < k → t.rts[j]? = some r → wrongR t.secs t.pts r = 0) ∧ Hid (Below wA.heap.size wA wr)) (fun iv _ => n - (intOf iv).toNat)
        case atStart => exact ⟨0, Nat.zero_le _, rfl, fun j r hj => by omega, Below.refl _ _⟩
        case round =>
          obtain ⟨k, hk, rfl, HZ, HBR⟩ := hrel
          by_cases hlt : k < n
          · have hkl : k < t.rts.length := by rw [← HN2.out]; exact hlt
            have hkr : (t.rts.map refR)[k]? = some (refR t.rts[k]) := by rw [List.getElem?_map, List.getElem?_eq_getElem hkl]; rfl
            obtain ⟨g, o, sa, sc, pa, pc, rfl, c0, c1, hIs, hPs⟩ := (HRA.out.below HBR.out).cell k _ hkr
            have hki : (k : Int) < (n : Int) := by omega
            have HWD : Hid (wrongR t.secs t.pts t.rts[k] = wrongRr t.secs t.pts (refR t.rts[k])) := (wrong_ref t.secs t.pts (by omega) t.rts[k]).symm
            have HCB : Hid (∀ c, c ∈ (refR t.rts[k]).pts → -2000 ≤ c ∧ c ≤ 2000) := fun c hc => by
              obtain ⟨x, _, rfl⟩ := List.mem_map.1 hc
              have := code_bd x
              omega
            have HZ1 : Hid (wrongRr t.secs t.pts (refR t.rts[k]) = 0 → ∀ (j : Nat) r, j < k + 1 → t.rts[j]? = some r → wrongR t.secs t.pts r = 0) := fun h0 j r hj hr => by
              by_cases hjk : j = k
              · subst hjk
                rw [List.getElem?_eq_getElem hkl] at hr
                cases hr
                rw [HWD.out]; exact h0
              · exact HZ.out j r (by omega) hr
            have HBE : Hid (∀ e : Nat, e ≠ 0 → wrongRr t.secs t.pts (refR t.rts[k]) = e → check t = some (e, some k)) := fun e he h0 => by
              rw [HCK2.out, firstBad_hit t k hkl (by rw [HWD.out, h0]; exact he) HZ.out]
              simp [badAt, hkl, HWD.out, h0]
            have HDEF : Hid (wrongRr t.secs t.pts (refR t.rts[k]) = if (refR t.rts[k]).secs = [] then 8 else if farS t.secs (refR t.rts[k]).secs then 2 else if farP t.pts (refR t.rts[k]).pts then 2 else if twice (refR t.rts[k]).secs then 9 else if twice ((refR t.rts[k]).pts.map absI) then 9 else 0) := rfl
            obtain ⟨wL, hwL⟩ : ∃ wL, wL = wr.alloc (.cells #[.slice sa (refR t.rts[k]).secs.length sc, .slice pa (refR t.rts[k]).pts.length pc] 45) := ⟨_, rfl⟩
            have hbL : Below wr.heap.size wr wL := by rw [hwL]; exact newB _ _
            have rL : RowIs wL wr.heap.size 45 [.slice sa (refR t.rts[k]).secs.length sc, .slice pa (refR t.rts[k]).pts.length pc] := by rw [hwL]; exact RowIs.new _ _ _
            have HBL : Hid (Below wA.heap.size wA wL) := then_ HBR.out hbL
            have HIS := hide (hIs.below hbL)
            have HPS := hide (hPs.below hbL)
            have hsl := hIs.len
            have hpl := hPs.len
            unfold maxLen at hsl hpl
            have HWL := hide hwL
            clear HWD hkr hIs hPs hwL
            generalize refR t.rts[k] = r at *
            generalize wrongRr t.secs t.pts r = y at *
            obtain ⟨secs, pts⟩ := r
            simp only at c0 c1 HIS HPS HCB HDEF rL HWL hsl hpl
            have HKL : Hid (∀ W, Below wL.heap.size wL W → W.cell? ⟨wr.heap.size, 0, none⟩ = some (.slice sa secs.length sc) ∧ W.cell? ⟨wr.heap.size, 1, none⟩ = some (.slice pa pts.length pc)) := fun W hW => ⟨kept hW (rL.cell 0 _ rfl), kept hW (rL.cell 1 _ rfl)⟩
            obtain ⟨u0, u1⟩ := HKL.out wL (Below.refl _ _)
            have hwr0 : w.heap.size + 1 < wr.heap.size := Nat.lt_of_lt_of_le hwl HBR.out.size
            obtain ⟨n1, hn1'⟩ : ∃ n1, n1 = secs.length := ⟨_, rfl⟩
            obtain ⟨n2, hn2'⟩ : ∃ n2, n2 = pts.length := ⟨_, rfl⟩
            have HS1 := hide hn1'
            have HS2 := hide hn2'
            rw [← hn1'] at c0 HIS HWL hsl HKL u0
            rw [← hn2'] at c1 HPS HWL hpl HKL u1
            clear hn1' hn2' rL hbL
            go_upto_region 6 with fail
            rw [← HWL.out]
            obtain ⟨wO, rfl⟩ : ∃ wO, wO = wr := ⟨_, rfl⟩
            by_cases h0 : n1 = 0
            · have HWE : Hid (y = 8) := by show _ = _; rw [HDEF.out, if_pos (List.length_eq_zero_iff.1 (by rw [← HS1.out]; exact h0))]
              have h0b : ((n1 : Int) == 0) = true := by simp [h0]
              clear h0
              have HX := hide (HBE.out 8 (by decide) HWE.out)
              obtain ⟨z0, z1, z2⟩ := HFIN.out wL HBL.out (.int .i64 8) (.int .i64 (k : Int))
              obtain ⟨f0, f1, f2, f3, f4⟩ := HPC.out wL HBL.out
              go_wp2_with fail
              refine bodyPost_ret_by (v := .agg #[.int .i64 8, .int .i64 (k : Int)]) ?_ rfl ?_
              · simp [results, Tryd.results5, go_sem, z0, z1]
              · exact ⟨by rw [HX.out]; rfl, z2⟩
            · have HD2 : Hid (y = if farS t.secs secs then 2 else if farP t.pts pts then 2 else if twice secs then 9 else if twice (pts.map absI) then 9 else 0) := by show _ = _; rw [HDEF.out, if_neg (fun h => h0 (by rw [HS1.out, h]; rfl))]
              have h0b : ((n1 : Int) == 0) = false := by simp [h0]
              clear h0 HDEF
              go_wp2_with fail
              go_loopw [52] (fun iv wr => ∃ j : Nat, j ≤ n1 ∧ iv = .int .i64 (j : Int) ∧ Hid ((secs.take j).any (fun n => !fromTo 0 (t.secs - 1) n) = false) ∧ Hid (Below wL.heap.size wL wr)) (fun iv _ => n1 - (intOf iv).toNat)
              case atStart => exact ⟨0, Nat.zero_le _, rfl, rfl, Below.refl _ _⟩
              case round =>
                obtain ⟨j, hj, rfl, HAN, HBJ⟩ := hrel
                obtain ⟨p0, p1⟩ := HKL.out wr HBJ.out
                obtain ⟨q0, q1, q2⟩ := HKT.out wr (then_ HBL.out HBJ.out)
                by_cases hjl : j < n1
                · have hjp : j < secs.length := by rw [← HS1.out]; exact hjl
                  obtain ⟨g1, o1, rfl, d1, _⟩ := (HIS.out.below HBJ.out).cell j _ (List.getElem?_eq_getElem hjp)
                  have hji : (j : Int) < (n1 : Int) := by omega
                  have HWI := hide (HI.out secs[j] 0 (t.secs - 1) wr)
                  have HHT : Hid ((!fromTo 0 (t.secs - 1) secs[j]) = true → y = 2) := fun h => by
                    have h2 : farS t.secs secs = true := any_take_hit (fun n => !fromTo 0 (t.secs - 1) n) secs j hjp h
                    rw [HD2.out, h2]; rfl
                  have HST : Hid ((!fromTo 0 (t.secs - 1) secs[j]) = false → (secs.take (j + 1)).any (fun n => !fromTo 0 (t.secs - 1) n) = false) := any_take_succ (fun n => !fromTo 0 (t.secs - 1) n) secs j hjp HAN.out
                  generalize secs[j] = x at *
                  go_wp2_with fail
                  refine HWI.out.mono ?_
                  rintro e w9 ⟨rfl, hw9⟩
                  obtain rfl := hw9.symm
                  cases hq : fromTo 0 (t.secs - 1) x with
                  | false =>
                    have HWE : Hid (y = 2) := HHT.out (by rw [hq]; rfl)
                    clear HHT HST hq
                    have HX := hide (HBE.out 2 (by decide) HWE.out)
                    obtain ⟨z0, z1, z2⟩ := HFIN.out wr (then_ HBL.out HBJ.out) (.int .i64 2) (.int .i64 (k : Int))
                    obtain ⟨f0, f1, f2, f3, f4⟩ := HPC.out wr (then_ HBL.out HBJ.out)
                    go_wp2_with fail
                    refine bodyPost_ret_by (v := .agg #[.int .i64 2, .int .i64 (k : Int)]) ?_ rfl ?_
                    · simp [results, Tryd.results5, go_sem, z0, z1]
                    · exact ⟨by rw [HX.out]; rfl, z2⟩
                  | true =>
                    have HS2' := hide (HST.out (by rw [hq]; rfl))
                    clear HHT HST hq
                    go_wp2_with fail
                    go_roundw
                    case rel => exact ⟨j + 1, by omega, by go_num, HS2'.out, HBJ.out⟩
                    case measure => simp [intOf]; omega
                · have hjn : j = n1 := by omega
                  have HD3 : Hid (y = if farP t.pts pts then 2 else if twice secs then 9 else if twice (pts.map absI) then 9 else 0) := by
                    have h := HAN.out
                    rw [List.take_of_length_le (by rw [← HS1.out]; omega)] at h
                    have h2 : farS t.secs secs = false := h
                    show _ = _
                    rw [HD2.out, h2]; rfl
                  have HB2 := hide HBJ.out
                  obtain rfl := hjn.symm
                  clear HD2
                  obtain ⟨w2, rfl⟩ : ∃ w2, w2 = wr := ⟨_, rfl⟩
                  go_wp2_with fail
                  go_loopw [68] (fun iv wr => ∃ j : Nat, j ≤ n2 ∧ iv = .int .i64 (j : Int) ∧ Hid ((pts.take j).any (fun n => !fromTo 1 t.pts (absI n)) = false) ∧ Hid (Below wL.heap.size wL wr)) (fun iv _ => n2 - (intOf iv).toNat)
                  case atStart => exact ⟨0, Nat.zero_le _, rfl, rfl, HB2.out⟩
                  case round =>
                    obtain ⟨j, hj, rfl, HAN, HBJ⟩ := hrel
                    obtain ⟨p0, p1⟩ := HKL.out wr HBJ.out
                    obtain ⟨q0, q1, q2⟩ := HKT.out wr (then_ HBL.out HBJ.out)
                    by_cases hjl : j < n2
                    · have hjp : j < pts.length := by rw [← HS2.out]; exact hjl
                      obtain ⟨g1, o1, rfl, d1, _⟩ := (HPS.out.below HBJ.out).cell j _ (List.getElem?_eq_getElem hjp)
                      have hji : (j : Int) < (n2 : Int) := by omega
                      obtain ⟨hx1, hx2⟩ := HCB.out _ (List.getElem_mem hjp)
                      have HAX := hide (fun W => HAB.out pts[j] hx1 hx2 W)
                      have HWI := hide (fun W => HI.out (absI pts[j]) 1 t.pts W)
                      have HHT : Hid ((!fromTo 1 t.pts (absI pts[j])) = true → y = 2) := fun h => by
                        have h2 : farP t.pts pts = true := any_take_hit (fun n => !fromTo 1 t.pts (absI n)) pts j hjp h
                        rw [HD3.out, h2]; rfl
                      have HST : Hid ((!fromTo 1 t.pts (absI pts[j])) = false → (pts.take (j + 1)).any (fun n => !fromTo 1 t.pts (absI n)) = false) := any_take_succ (fun n => !fromTo 1 t.pts (absI n)) pts j hjp HAN.out
                      cases hq : fromTo 1 t.pts (absI pts[j]) with
                      | false =>
                        have HWE : Hid (y = 2) := HHT.out (by rw [hq]; rfl)
                        rw [hq] at HWI
                        clear HHT HST hq
                        generalize absI pts[j] = v at *
                        generalize pts[j] = x at *
                        go_wp2_with fail
                        go_quiet (first | (go_at_call 14; with_reducible refine Calls.quiet_of_same (HAX.out _)) | (go_at_call 12; with_reducible refine Calls.quiet_of_same (HWI.out _)))
                        have HBQ := hide (then_ HBL.out (then_ HBJ.out (drewN_c wr nq)))
                        have HX := hide (HBE.out 2 (by decide) HWE.out)
                        obtain ⟨z0, z1, z2⟩ := HFIN.out (wr.drewN nq) HBQ.out (.int .i64 2) (.int .i64 (k : Int))
                        obtain ⟨f0, f1, f2, f3, f4⟩ := HPC.out (wr.drewN nq) HBQ.out
                        go_wp2_with fail
                        refine bodyPost_ret_by (v := .agg #[.int .i64 2, .int .i64 (k : Int)]) ?_ rfl ?_
                        · simp [results, Tryd.results5, go_sem, z0, z1]
                        · exact ⟨by rw [HX.out]; rfl, z2⟩
                      | true =>
                        have HS2' := hide (HST.out (by rw [hq]; rfl))
                        rw [hq] at HWI
                        clear HHT HST hq
                        generalize absI pts[j] = v at *
                        generalize pts[j] = x at *
                        go_wp2_with fail
                        go_quiet (first | (go_at_call 14; with_reducible refine Calls.quiet_of_same (HAX.out _)) | (go_at_call 12; with_reducible refine Calls.quiet_of_same (HWI.out _)))
                        go_wp2_with fail
                        go_roundw
                        case rel => exact ⟨j + 1, by omega, by go_num, HS2'.out, then_ HBJ.out (drewN_c wr nq)⟩
                        case measure => simp [intOf]; omega
                    · have hjn : j = n2 := by omega
                      have HD4 : Hid (y = if twice secs then 9 else if twice (pts.map absI) then 9 else 0) := by
                        have h := HAN.out
                        rw [List.take_of_length_le (by rw [← HS2.out]; omega)] at h
                        have h2 : farP t.pts pts = false := h
                        show _ = _
                        rw [HD3.out, h2]; rfl
                      have HB3 := hide HBJ.out
                      obtain rfl := hjn.symm
                      clear HD3
                      obtain ⟨w3, rfl⟩ : ∃ w3, w3 = wr := ⟨_, rfl⟩
                      go_wp2_with fail
                      go_loopw [84] (fun iv wr => ∃ j : Nat, j ≤ n1 ∧ iv = .int .i64 (j : Int) ∧ Hid ((secs.take j).Nodup) ∧ Hid (Below wL.heap.size wL wr)) (fun iv _ => n1 - (intOf iv).toNat)
                      case atStart => exact ⟨0, Nat.zero_le _, rfl, by simp [Hid], HB3.out⟩
                      case round =>
                        obtain ⟨j, hj, rfl, HND, HBJ⟩ := hrel
                        obtain ⟨p0, p1⟩ := HKL.out wr HBJ.out
                        by_cases hjl : j < n1
                        · have hjp : j < secs.length := by rw [← HS1.out]; exact hjl
                          obtain ⟨g1, o1, rfl, d1, _⟩ := (HIS.out.below HBJ.out).cell j _ (List.getElem?_eq_getElem hjp)
                          have hji : (j : Int) < (n1 : Int) := by omega
                          have hcap := (HIS.out.cap (by omega)).1
                          have hjc : j ≤ sc := by omega
                          have HSTEP : Hid ((secs.take j).contains secs[j] = false → (secs.take (j + 1)).Nodup) := fun h => (take_nodup _ j hjp).2 ⟨HND.out, h⟩
                          have HNO : Hid ((secs.take j).contains secs[j] = true → y = 9) := fun h => by rw [HD4.out, twice_hit secs j hjp h]; rfl
                          clear hcap
                          generalize secs[j] = x at *
                          obtain ⟨w6, rfl⟩ : ∃ w6, w6 = wr := ⟨_, rfl⟩
                          go_wp2_with fail
                          go_loopw [94] (fun iv wr => ∃ i : Nat, i ≤ j ∧ iv = .int .i64 (i : Int) ∧ Hid ((secs.take i).contains x = false) ∧ Hid (Below wL.heap.size wL wr)) (fun iv _ => j - (intOf iv).toNat)
                          case atStart => exact ⟨0, Nat.zero_le _, rfl, rfl, HBJ.out⟩
                          case round =>
                            obtain ⟨i, hi, rfl, HC, HBI⟩ := hrel
                            by_cases hil : i < j
                            · have hip : i < secs.length := by rw [← HS1.out]; omega
                              obtain ⟨g2, o2, hg2, d2, _⟩ := (HIS.out.below HBI.out).cell i _ (List.getElem?_eq_getElem hip)
                              simp only [Option.some.injEq, Addr.mk.injEq, and_true] at hg2
                              obtain ⟨rfl, rfl⟩ := hg2
                              have hii : (i : Int) < (j : Int) := by omega
                              have HCN := hide (contains_take secs i hip x)
                              have HHT : Hid (x = secs[i] → (secs.take j).contains x = true) := fun e => by
                                rw [e, List.contains_iff_mem]
                                exact List.mem_take_iff_getElem.2 ⟨i, by omega, rfl⟩
                              generalize secs[i] = u2 at *
                              by_cases hv : x = u2
                              · have HWE : Hid (y = 9) := HNO.out (HHT.out hv)
                                subst hv
                                clear HCN HHT
                                have HX := hide (HBE.out 9 (by decide) HWE.out)
                                obtain ⟨z0, z1, z2⟩ := HFIN.out wr (then_ HBL.out HBI.out) (.int .i64 9) (.int .i64 (k : Int))
                                obtain ⟨f0, f1, f2, f3, f4⟩ := HPC.out wr (then_ HBL.out HBI.out)
                                go_wp2_with fail
                                refine bodyPost_ret_by (v := .agg #[.int .i64 9, .int .i64 (k : Int)]) ?_ rfl ?_
                                · simp [results, Tryd.results5, go_sem, z0, z1]
                                · exact ⟨by rw [HX.out]; rfl, z2⟩
                              · have hvb : (x == u2) = false := by simpa using hv
                                have HC2 : Hid ((secs.take (i + 1)).contains x = false) := by show _ = _; rw [HCN.out, HC.out, hvb]; rfl
                                clear HCN HHT hv HC
                                go_wp2_with fail
                                go_roundw
                                case rel => exact ⟨i + 1, by omega, by go_num, HC2.out, HBI.out⟩
                                case measure => simp [intOf]; omega
                            · have hij : i = j := by omega
                              have HND2 : Hid ((secs.take (j + 1)).Nodup) := HSTEP.out (by rw [← hij]; exact HC.out)
                              subst hij
                              go_wp2_with fail
                              go_roundw
                              case rel => exact ⟨i + 1, by omega, by go_num, HND2.out, HBI.out⟩
                              case measure => simp [intOf]; omega
                        · have hjn : j = n1 := by omega
                          have HD5 : Hid (y = if twice (pts.map absI) then 9 else 0) := by
                            have h := HND.out
                            rw [List.take_of_length_le (by rw [← HS1.out]; omega)] at h
                            show _ = _
                            rw [HD4.out, twice_none _ h]; rfl
                          have HB4 := hide HBJ.out
                          obtain rfl := hjn.symm
                          clear HD4
                          obtain ⟨w4, rfl⟩ : ∃ w4, w4 = wr := ⟨_, rfl⟩
                          go_wp2_with fail
                          go_loopw [108] (fun iv wr => ∃ j : Nat, j ≤ n2 ∧ iv = .int .i64 (j : Int) ∧ Hid (((pts.map absI).take j).Nodup) ∧ Hid (Below wL.heap.size wL wr)) (fun iv _ => n2 - (intOf iv).toNat)
                          case atStart => exact ⟨0, Nat.zero_le _, rfl, by simp [Hid], HB4.out⟩
                          case round =>
                            obtain ⟨j, hj, rfl, HND, HBJ⟩ := hrel
                            obtain ⟨p0, p1⟩ := HKL.out wr HBJ.out
                            by_cases hjl : j < n2
                            · have hjp : j < pts.length := by rw [← HS2.out]; exact hjl
                              obtain ⟨g1, o1, rfl, d1, _⟩ := (HPS.out.below HBJ.out).cell j _ (List.getElem?_eq_getElem hjp)
                              have hji : (j : Int) < (n2 : Int) := by omega
                              have hcap := (HPS.out.cap (by omega)).1
                              have hjc : j ≤ pc := by omega
                              obtain ⟨hx1, hx2⟩ := HCB.out _ (List.getElem_mem hjp)
                              have hjm : j < (pts.map absI).length := by rw [List.length_map]; exact hjp
                              have hjg : (pts.map absI)[j] = absI pts[j] := by rw [List.getElem_map]
                              have HSTEP : Hid (((pts.map absI).take j).contains (absI pts[j]) = false → ((pts.map absI).take (j + 1)).Nodup) := fun h => (take_nodup _ j hjm).2 ⟨HND.out, by rw [hjg]; exact h⟩
                              have HNO : Hid (((pts.map absI).take j).contains (absI pts[j]) = true → y = 9) := fun h => by
                                have := twice_hit (pts.map absI) j hjm (by rw [hjg]; exact h)
                                rw [HD5.out, this]; rfl
                              clear hjm hjg hcap
                              generalize pts[j] = x at *
                              obtain ⟨w6, rfl⟩ : ∃ w6, w6 = wr := ⟨_, rfl⟩
                              go_wp2_with fail
                              go_loopw [118] (fun iv wr => ∃ i : Nat, i ≤ j ∧ iv = .int .i64 (i : Int) ∧ Hid (((pts.map absI).take i).contains (absI x) = false) ∧ Hid (Below wL.heap.size wL wr)) (fun iv _ => j - (intOf iv).toNat)
                              case atStart => exact ⟨0, Nat.zero_le _, rfl, rfl, HBJ.out⟩
                              case round =>
                                obtain ⟨i, hi, rfl, HC, HBI⟩ := hrel
                                by_cases hil : i < j
                                · have hip : i < pts.length := by rw [← HS2.out]; omega
                                  obtain ⟨g2, o2, hg2, d2, _⟩ := (HPS.out.below HBI.out).cell i _ (List.getElem?_eq_getElem hip)
                                  simp only [Option.some.injEq, Addr.mk.injEq, and_true] at hg2
                                  obtain ⟨rfl, rfl⟩ := hg2
                                  have hii : (i : Int) < (j : Int) := by omega
                                  obtain ⟨y1, y2⟩ := HCB.out _ (List.getElem_mem hip)
                                  have HAX := hide (HAB.out x hx1 hx2 wr)
                                  have HAY := hide (HAB.out pts[i] y1 y2 wr)
                                  have HCN : Hid (((pts.map absI).take (i + 1)).contains (absI x) = (((pts.map absI).take i).contains (absI x) || absI x == absI pts[i])) := by
                                    have h := contains_take (pts.map absI) i (by rw [List.length_map]; exact hip) (absI x)
                                    rw [List.getElem_map] at h
                                    exact h
                                  have HHT : Hid (absI x = absI pts[i] → ((pts.map absI).take j).contains (absI x) = true) := fun e => by
                                    rw [e, List.contains_iff_mem]
                                    exact List.mem_take_iff_getElem.2 ⟨i, by rw [List.length_map]; omega, by rw [List.getElem_map]⟩
                                  clear y1 y2
                                  generalize absI pts[i] = v2 at *
                                  generalize pts[i] = u2 at *
                                  by_cases hv : absI x = v2
                                  · have HWE : Hid (y = 9) := HNO.out (HHT.out hv)
                                    have hvb : (absI x == v2) = true := by simpa using hv
                                    clear HCN HHT hv
                                    generalize absI x = v1 at *
                                    have HX := hide (HBE.out 9 (by decide) HWE.out)
                                    obtain ⟨z0, z1, z2⟩ := HFIN.out wr (then_ HBL.out HBI.out) (.int .i64 9) (.int .i64 (k : Int))
                                    obtain ⟨f0, f1, f2, f3, f4⟩ := HPC.out wr (then_ HBL.out HBI.out)
                                    go_wp2_with (first | (go_at_call 14; (with_reducible refine HAX.out.mono ?_); rintro e w9 ⟨rfl, hw9⟩; obtain rfl := hw9.symm) | (go_at_call 14; (with_reducible refine HAY.out.mono ?_); rintro e w9 ⟨rfl, hw9⟩; obtain rfl := hw9.symm))
                                    refine bodyPost_ret_by (v := .agg #[.int .i64 9, .int .i64 (k : Int)]) ?_ rfl ?_
                                    · simp [results, Tryd.results5, go_sem, z0, z1]
                                    · exact ⟨by rw [HX.out]; rfl, z2⟩
                                  · have hvb : (absI x == v2) = false := by simpa using hv
                                    have HC2 : Hid (((pts.map absI).take (i + 1)).contains (absI x) = false) := by show _ = _; rw [HCN.out, HC.out, hvb]; rfl
                                    clear HCN HHT hv HC
                                    have HAX' := HAX
                                    go_wp2_with (first | (go_at_call 14; (with_reducible refine HAX.out.mono ?_); rintro e w9 ⟨rfl, hw9⟩; obtain rfl := hw9.symm) | (go_at_call 14; (with_reducible refine HAY.out.mono ?_); rintro e w9 ⟨rfl, hw9⟩; obtain rfl := hw9.symm))
                                    go_roundw
                                    case rel => exact ⟨i + 1, by omega, by go_num, HC2.out, HBI.out⟩
                                    case measure => simp [intOf]; omega
                                · have hij : i = j := by omega
                                  have HND2 : Hid (((pts.map absI).take (j + 1)).Nodup) := HSTEP.out (by rw [← hij]; exact HC.out)
                                  subst hij
                                  go_wp2_with fail
                                  go_roundw
                                  case rel => exact ⟨i + 1, by omega, by go_num, HND2.out, HBI.out⟩
                                  case measure => simp [intOf]; omega
                            · have hjn : j = n2 := by omega
                              have hy0 : y = 0 := by
                                have h := HND.out
                                rw [List.take_of_length_le (by rw [List.length_map, ← HS2.out]; omega)] at h
                                rw [HD5.out, twice_none _ h]; rfl
                              have HZ2 := hide (HZ1.out hy0)
                              have HBX := hide (then_ HBL.out HBJ.out)
                              obtain rfl := hjn.symm
                              clear hy0
                              go_wp2_with fail
                              go_roundw
                              case rel => exact ⟨k + 1, by omega, by go_num, HZ2.out, HBX.out⟩
                              case measure => simp [intOf]; omega
          · have hkn : k = n := by omega
            have HX : Hid (check t = none) := by
              show _ = _
              rw [HCK2.out, firstBad_none t (fun j r hj hr => HZ.out j r (by rw [hkn, HN2.out]; exact hj) hr)]
              rfl
            obtain ⟨fn0, fn1⟩ := HFA.out wr HBR.out
            obtain ⟨z0, z1, z2⟩ := HFIN.out wr HBR.out (.int .i64 0) (.int .i64 (-1))
            obtain ⟨f0, f1, f2, f3, f4⟩ := HPC.out wr HBR.out
            subst hkn
            go_wp2_with fail
            refine bodyPost_ret_by (v := .agg #[.int .i64 0, .int .i64 (-1)]) ?_ rfl ?_
            · simp [results, Tryd.results5, go_sem, z0, z1]
            · exact ⟨by rw [HX.out]; rfl, z2⟩
end Ro
end Go.Proofs.YtmniiclmimidjaaDoor
