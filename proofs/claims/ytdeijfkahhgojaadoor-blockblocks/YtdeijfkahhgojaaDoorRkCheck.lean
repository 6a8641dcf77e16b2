/-
  The walks of the document's own within and TableCheck (9.1).
-/
import Derived.Test.YtdeijfkahhgojaaDoorBkBase
import Derived.Test.YtdeijfkahhgojaaDoorBkMath
namespace Go.Proofs.YtdeijfkahhgojaaDoor
namespace Bk
open Go.RowKit
/-- a fault: its error, its place -/
def faultV (n pl : Int) : Value := .agg #[.int .i64 n, .int .i64 pl]
/-- the variable Fine, as it is laid -/
def Fine (w : World) : Prop := w.cell? ⟨0, 0, none⟩ = some (.int .i64 0) ∧ w.cell? ⟨0, 1, none⟩ = some (.int .i64 (-1))
theorem Fine.below {w w' : World} (h : Fine w) (hb : Below w.heap.size w w') : Fine w' := ⟨kept hb h.1, kept hb h.2⟩
/-- an error's number, and its place -/
def fltE : Option (Nat × Option Nat) → Int
  | none => 0
  | some (e, _) => (e : Int)
def fltP : Option (Nat × Option Nat) → Int
  | some (_, some p) => (p : Int)
  | _ => -1
set_option maxHeartbeats 2000000 in
theorem within_any (n lo hi : Int) (w : World) :
    Calls Tryd.prog 31 #[.int .i64 n, .int .i64 lo, .int .i64 hi] w fun e w' => e = .returned (.bool (decide (lo ≤ n) && decide (n ≤ hi))) ∧ w = w' := by
  by_cases h1 : lo ≤ n
  · by_cases h2 : n ≤ hi
    all_goals
      go_enter Tryd.func31, Tryd.ntmps31
      go_wp2_with fail
      go_ret
      exact ⟨ret_bool (by simp [h1, h2]), rfl⟩
  · go_enter Tryd.func31, Tryd.ntmps31
    go_wp2_with fail
    go_ret
    exact ⟨ret_bool (by simp; omega), rfl⟩
set_option maxHeartbeats 2000000 in
theorem bare0_any (e0 : Int) (w : World) :
    Calls Tryd.prog 30 #[.int .i64 e0] w fun e w' => e = .returned (faultV e0 (-1)) ∧ Below w.heap.size w w' := by
  go_enter Tryd.func30, Tryd.ntmps30
  go_wp2_with fail
  refine bodyPost_ret_by (v := .agg #[.int .i64 e0, .int .i64 (-1)]) ?_ rfl ⟨rfl, (Below.refl _ _).alloc (Nat.le_refl _) _⟩
  simp [results, Tryd.results30, go_sem]
/-- a table's box, of the document's -/
theorem TabR.new (w : World) (nv tv : Value) : Tab (w.alloc (.cells #[nv, tv] 25)) w.heap.size nv tv :=
  ⟨by rw [Lib.cell_of_heap (heap_alloc_new w _)]; rfl, by rw [Lib.cell_of_heap (heap_alloc_new w _)]; rfl⟩
theorem rowBad_form {n k : Nat} {r t : List Int} (h : ¬ (r.length = k ∧ t.length = k)) : rowBad n k r t = some 3 := by unfold rowBad; rw [if_neg h]
theorem rowBad_range {n k : Nat} {r t : List Int} (h : r.length = k ∧ t.length = k) (j : Nat) (hj : j < r.length) (hb : hasB n r[j] = false) : rowBad n k r t = some 2 := by
  unfold rowBad
  rw [if_pos h, if_pos]
  exact List.any_eq_true.2 ⟨_, List.getElem_mem hj, by rw [hb]; rfl⟩
theorem rowBad_fine {n k : Nat} {r t : List Int} (h : r.length = k ∧ t.length = k) (hb : ∀ j (hj : j < r.length), hasB n r[j] = true) : rowBad n k r t = none := by
  unfold rowBad
  rw [if_pos h, if_neg]
  intro ha
  obtain ⟨x, hx, h2⟩ := List.any_eq_true.1 ha
  obtain ⟨j, hj, rfl⟩ := List.getElem_of_mem hx
  rw [hb j hj] at h2
  cases h2
set_option maxHeartbeats 16000000 in
set_option maxRecDepth 100000 in
theorem TableCheck_any (N T : List (List Int)) (nv tv : Value) (w : World) (hN : Rows w nv N) (hT : Rows w tv T) (hf : Fine w) :
    Calls Tryd.prog 18 #[.agg #[nv, tv]] w fun e w' => e = .returned (faultV (fltE (check N T)) (fltP (check N T))) ∧ Below w.heap.size w w' := by
  obtain ⟨wA, hwA⟩ : ∃ wA, wA = w.alloc (.cells #[nv, tv] 25) := ⟨_, rfl⟩
  obtain ⟨wB, hwB⟩ : ∃ wB, wB = wA.alloc (.cells #[.int .i64 0, .int .i64 0] 28) := ⟨_, rfl⟩
  have hzA : wA.heap.size = w.heap.size + 1 := by rw [hwA]; simp
  have hA : Below w.heap.size w wA := by rw [hwA]; exact (Below.refl _ _).alloc (Nat.le_refl _) _
  have hB : Below wA.heap.size wA wB := by rw [hwB]; exact (Below.refl _ _).alloc (Nat.le_refl _) _
  have hWB := then_ hA hB
  have HTA : Hid (Tab wB w.heap.size nv tv) := by refine Tab.below ?_ hB; rw [hwA]; exact TabR.new _ _ _
  have HRS : Hid (wB.heap[w.heap.size + 1]? = some (.cells #[.int .i64 0, .int .i64 0] 28 (0, 0))) := by rw [hwB, ← hzA]; exact heap_alloc_new _ _
  have HNB := hide (hN.below hWB)
  have HTB := hide (hT.below hWB)
  have HFB := hide (hf.below hWB)
  have HBB := hide hWB
  have hlN := hN.len
  have hlT := hT.len
  unfold maxLen at hlN hlT
  obtain ⟨na, nc, rfl⟩ := hN.slice
  obtain ⟨ta, tc, rfl⟩ := hT.slice
  have HFIN : Hid (∀ (W : World) (x_ y_ : Value) (e p : Int), Below wB.heap.size wB W → fltE (check N T) = e → fltP (check N T) = p → (Ending.returned (.agg #[.int .i64 e, .int .i64 p]) = .returned (faultV (fltE (check N T)) (fltP (check N T))) ∧ Below w.heap.size w ((W.setCell ⟨w.heap.size + 1, 0, none⟩ x_).setCell ⟨w.heap.size + 1, 1, none⟩ y_))) := fun W x_ y_ e p h1 h2 h3 => by
    rw [h2, h3]
    exact ⟨rfl, ((HBB.out.trans (h1.mono HBB.out.size)).setCell (by show w.heap.size ≤ w.heap.size + 1; omega) _).setCell (by show w.heap.size ≤ w.heap.size + 1; omega) _⟩
  have HRW : Hid (∀ W, Below wB.heap.size wB W → W.cell? ⟨w.heap.size + 1, 0, none⟩ = some (.int .i64 0) ∧ W.cell? ⟨w.heap.size + 1, 1, none⟩ = some (.int .i64 0) ∧ W.frozen? ⟨w.heap.size + 1, 0, none⟩ = false ∧ W.frozen? ⟨w.heap.size + 1, 1, none⟩ = false ∧ Tab W w.heap.size (.slice na N.length nc) (.slice ta T.length tc)) := fun W hW => by
    have h := (hW.block _ (Array.getElem?_eq_some_iff.1 HRS.out).1).trans HRS.out
    exact ⟨by rw [Lib.cell_of_heap h]; rfl, by rw [Lib.cell_of_heap h]; rfl, Lib.frozen_of_heap h 0, Lib.frozen_of_heap h 1, HTA.out.below hW⟩
  obtain ⟨z0, z1, z2, z3, t0, t1⟩ := HRW.out wB (Below.refl _ _)
  obtain ⟨n, hn⟩ : ∃ n, n = N.length := ⟨_, rfl⟩
  obtain ⟨m, hm⟩ : ∃ m, m = T.length := ⟨_, rfl⟩
  have HNn := hide hn
  have HMm := hide hm
  rw [← hn] at HNB hlN t0 HRW ⊢
  rw [← hm] at HTB hlT t1 HRW ⊢
  rw [← hn, ← hm] at hwA
  have HWI := hide (fun a b c W => within_any a b c W)
  clear hN hT hf hA hB hWB
  by_cases h1 : 1 ≤ n ∧ n ≤ 500
  · obtain ⟨h1a, h1b⟩ := h1
    have hw1 : (Decidable.decide ((1 : Int) ≤ (n : Int)) && Decidable.decide ((n : Int) ≤ 500)) = true := by simp; omega
    have HW1 := hide (fun W => HWI.out (n : Int) 1 500 W)
    rw [hw1] at HW1
    have hp0 : 0 < N.length := by omega
    have h0 := List.getElem?_eq_getElem hp0
    have hz : N.getD 0 [] = N[0] := getD_in _ _ _ hp0
    obtain ⟨gN, oN, rfl, ur, dr, cr, _⟩ := HNB.out.cell 0 _ h0
    simp only [Nat.add_zero] at cr
    obtain ⟨k, hk⟩ : ∃ k, k = N[0].length := ⟨_, rfl⟩
    have HK : Hid (k = (N.getD 0 []).length) := by rw [hz]; exact hk
    rw [← hk] at cr
    have hpi : (0 : Int) < (n : Int) := by omega
    clear h0 hz hk hw1
    by_cases h3 : 64 < k
    · have hck : check N T = some (4, none) := check_limit (.inr (.inr (by rw [← HK.out]; exact h3)))
      have h3i : (64 : Int) < (k : Int) := by omega
      have HF4 := hide (fun W x_ y_ (hW : Below wB.heap.size wB W) => HFIN.out W x_ y_ 4 (-1) hW (by rw [hck]; rfl) (by rw [hck]; rfl))
      have HBA4 := hide (fun W => bare0_any 4 W)
      unfold faultV at HBA4
      clear hck hn hm hzA
      go_enter Tryd.func18, Tryd.ntmps18
      go_wp2_with fail
      rw [← hwA, ← hwB]
      clear hwA hwB
      refine (HW1.out _).mono ?_
      rintro e w' ⟨rfl, rfl⟩
      go_wp2_with fail
      refine (HBA4.out _).mono ?_
      rintro e w2 ⟨rfl, hb2⟩
      obtain ⟨y0, y1, y2, y3, _⟩ := HRW.out w2 hb2
      have HF5 := hide (fun x_ y_ => HF4.out w2 x_ y_ hb2)
      clear hb2
      go_wp2_with fail
      refine bodyPost_ret_by (v := .agg #[.int .i64 4, .int .i64 (-1)]) ?_ rfl ?_
      · simp [results, Tryd.results18, go_sem, y0, y1]
      · exact HF5.out _ _
    · have h3i : ¬ (64 : Int) < (k : Int) := by omega
      have hlim : ¬ (N.length < 1 ∨ 500 < N.length ∨ 64 < (N.getD 0 []).length) := by rw [← hn, ← HK.out]; omega
      by_cases h4 : m = n
      · have HL := hide hlim
        have HMN : Hid (T.length = N.length) := by rw [← hm, ← hn]; exact h4
        subst h4
        clear hn hm hlim hzA hlT
        go_enter Tryd.func18, Tryd.ntmps18
        go_wp2_with fail
        rw [← hwA, ← hwB]
        clear hwA hwB
        refine (HW1.out _).mono ?_
        rintro e w' ⟨rfl, rfl⟩
        go_wp2_with fail
        go_loopw [31] (fun i wr => ∃ s : Nat, s ≤ m ∧ i = .int .i64 (s : Int) ∧ Hid (∀ r, r < s → badAt N T r = none) ∧ Hid (Below wB.heap.size wB wr)) (fun i _ => m - (intOf i).toNat)
        case atStart => exact ⟨0, Nat.zero_le _, rfl, fun r hr => by omega, Below.refl _ _⟩
        case round =>
          obtain ⟨s, hs, rfl, HBF, HB⟩ := hrel
          obtain ⟨wo, hwo⟩ : ∃ wo, wo = wr := ⟨_, rfl⟩
          subst hwo
          obtain ⟨y0, y1, y2, y3, yT⟩ := HRW.out wo HB.out
          obtain ⟨q0, q1⟩ := yT
          have cr2 := kept HB.out cr
          by_cases hlt : s < m
          · have hsN : s < N.length := by rw [← HNn.out]; exact hlt
            have hsT : s < T.length := by rw [HMN.out]; exact hsN
            obtain ⟨g1, o1, e1, u1, d1, c1, hi1⟩ := (HNB.out.below HB.out).cell s _ (List.getElem?_eq_getElem hsN)
            simp only [Option.some.injEq, Addr.mk.injEq, and_true] at e1
            obtain ⟨rfl, rfl⟩ := e1
            obtain ⟨g2, o2, rfl, u2, d2, c2, hi2⟩ := (HTB.out.below HB.out).cell s _ (List.getElem?_eq_getElem hsT)
            have eN : N.getD s [] = N[s] := getD_in _ _ _ hsN
            have eT : T.getD s [] = T[s] := getD_in _ _ _ hsT
            have HBAD : Hid (badAt N T s = rowBad m k N[s] T[s]) := by show badAt N T s = _; unfold badAt; rw [eN, eT, ← HNn.out, ← HK.out]
            have HCB : Hid (∀ e, rowBad m k N[s] T[s] = some e → check N T = some (e, some s)) := fun e he => check_bad HL.out HMN.out s e hsN HBF.out (HBAD.out.trans he)
            have HI1 := hide hi1
            clear eN eT hi1 hi2
            generalize N[s] = r at *
            generalize T[s] = tr at *
            have hsi : (s : Int) < (m : Int) := by omega
            obtain ⟨q, hq⟩ : ∃ q, q = tr.length := ⟨_, rfl⟩
            obtain ⟨z, hz⟩ : ∃ z, z = r.length := ⟨_, rfl⟩
            have HQ := hide hq
            have HZ := hide hz
            rw [← hq] at c2
            rw [← hz] at c1 HI1
            clear hq hz
            have HQD : Hid (∀ n, Below wB.heap.size wB (wo.drewN n)) := fun n => HB.out.trans ⟨rfl, rfl, rfl, Nat.le_refl _, fun _ _ => rfl⟩
            by_cases hz1 : z = k
            · by_cases hq1 : q = k
              · subst hz1
                subst hq1
                have HLEN : Hid (r.length = q ∧ tr.length = q) := ⟨HZ.out.symm, HQ.out.symm⟩
                go_wp2_with fail
                go_quiet (fail)
                go_wp2_with fail
                obtain ⟨wD, hwD⟩ : ∃ wD, wD = wo.drewN nq := ⟨_, rfl⟩
                have HBD : Hid (Below wB.heap.size wB wD) := by rw [hwD]; exact HQD.out _
                have HID : Hid (Ints wD (.slice u1 q d1) r) := by rw [hwD]; exact HI1.out.below ⟨rfl, rfl, rfl, Nat.le_refl _, fun _ _ => rfl⟩
                rw [← hwD]
                clear hwD
                go_loopw [68] (fun i wr => ∃ j : Nat, j ≤ q ∧ i = .int .i64 (j : Int) ∧ Hid (∀ i' (hi' : i' < r.length), i' < j → hasB m r[i'] = true) ∧ Hid (wr = wD)) (fun i _ => q - (intOf i).toNat)
                case atStart => exact ⟨0, Nat.zero_le _, rfl, fun i' _ hi' => by omega, rfl⟩
                case round =>
                  obtain ⟨j, hj, rfl, HJ, HWR⟩ := hrel
                  obtain rfl := HWR.out
                  by_cases hjq : j < q
                  · have hjr : j < r.length := by rw [HLEN.out.1]; exact hjq
                    obtain ⟨gr, or_, rfl, c9, _⟩ := HID.out.cell j _ (List.getElem?_eq_getElem hjr)
                    have HWX := hide (fun W => HWI.out r[j] 0 ((m : Int) - 1) W)
                    have hhas : (Decidable.decide (0 ≤ r[j]) && Decidable.decide (r[j] ≤ (m : Int) - 1)) = hasB m r[j] := by
                      unfold hasB
                      congr 1
                      exact decide_eq_decide.2 ⟨fun h => by omega, fun h => by omega⟩
                    rw [hhas] at HWX
                    have HRG : Hid (hasB m r[j] = false → check N T = some (2, some s)) := fun h => HCB.out 2 (rowBad_range HLEN.out j hjr h)
                    have HNJ : Hid (hasB m r[j] = true → ∀ i' (hi' : i' < r.length), i' < j + 1 → hasB m r[i'] = true) := fun h i' hi' h2 => by
                      by_cases e : i' = j
                      · subst e; exact h
                      · exact HJ.out i' hi' (by omega)
                    have hjqi : (j : Int) < (q : Int) := by omega
                    obtain ⟨x0, x1, x2, x3, _⟩ := HRW.out wr HBD.out
                    clear hhas
                    generalize hasB m r[j] = y at *
                    generalize r[j] = rj at *
                    cases y with
                    | true =>
                      have HN2 := hide (HNJ.out rfl)
                      go_wp2_with (go_at_call 31; (with_reducible refine (HWX.out _).mono ?_); rintro e w' ⟨rfl, rfl⟩)
                      go_roundw
                      case rel => exact ⟨j + 1, by omega, by go_num, HN2.out, trivial⟩
                      case measure => simp [intOf]; omega
                    | false =>
                      have hck := HRG.out rfl
                      have HF5 := hide (fun x_ y_ => HFIN.out wr x_ y_ 2 (s : Int) HBD.out (by rw [hck]; rfl) (by rw [hck]; rfl))
                      clear hck
                      go_wp2_with (go_at_call 31; (with_reducible refine (HWX.out _).mono ?_); rintro e w' ⟨rfl, rfl⟩)
                      refine bodyPost_ret_by (v := .agg #[.int .i64 2, .int .i64 (s : Int)]) ?_ rfl ?_
                      · simp [results, Tryd.results18, go_sem, x0, x1]
                      · exact HF5.out _ _
                  · have HN2 : Hid (∀ r', r' < s + 1 → badAt N T r' = none) := fun r' hr' => by
                      by_cases e : r' = s
                      · subst e
                        rw [HBAD.out]
                        exact rowBad_fine HLEN.out (fun i' hi' => HJ.out i' hi' (by rw [HLEN.out.1] at hi'; omega))
                      · exact HBF.out r' (by omega)
                    have hjq2 : ¬ (j : Int) < (q : Int) := by omega
                    go_wp2_with fail
                    go_roundw
                    case rel => exact ⟨s + 1, by omega, by go_num, HN2.out, HBD.out⟩
                    case measure => simp [intOf]; omega
              · have hck : check N T = some (3, some s) := HCB.out 3 (rowBad_form (fun h => hq1 (HQ.out.trans h.2)))
                have HF5 := hide (fun n x_ y_ => HFIN.out (wo.drewN n) x_ y_ 3 (s : Int) (HQD.out n) (by rw [hck]; rfl) (by rw [hck]; rfl))
                have hqi : ¬ (q : Int) = (k : Int) := by omega
                have hqb : ((q : Int) != (k : Int)) = true := by simpa using hqi
                subst hz1
                clear hck
                go_wp2_with fail
                go_quiet (fail)
                go_wp2_with fail
                refine bodyPost_ret_by (v := .agg #[.int .i64 3, .int .i64 (s : Int)]) ?_ rfl ?_
                · simp [results, Tryd.results18, go_sem, y0, y1]
                · exact HF5.out _ _ _
            · have hck : check N T = some (3, some s) := HCB.out 3 (rowBad_form (fun h => hz1 (HZ.out.trans h.1)))
              have HF5 := hide (fun n x_ y_ => HFIN.out (wo.drewN n) x_ y_ 3 (s : Int) (HQD.out n) (by rw [hck]; rfl) (by rw [hck]; rfl))
              have hzi : ¬ (z : Int) = (k : Int) := by omega
              have hzb : ((z : Int) != (k : Int)) = true := by simpa using hzi
              clear hck
              go_wp2_with fail
              go_quiet (fail)
              go_wp2_with fail
              refine bodyPost_ret_by (v := .agg #[.int .i64 3, .int .i64 (s : Int)]) ?_ rfl ?_
              · simp [results, Tryd.results18, go_sem, y0, y1]
              · exact HF5.out _ _ _
          · have hck : check N T = none := check_fine HL.out HMN.out (fun r hr => HBF.out r (by rw [← HNn.out] at hr; omega))
            have HF5 := hide (fun x_ y_ => HFIN.out wo x_ y_ 0 (-1) HB.out (by rw [hck]; rfl) (by rw [hck]; rfl))
            obtain ⟨f0, f1⟩ := HFB.out.below HB.out
            have hsm : s = m := by omega
            subst hsm
            clear hck
            go_wp2_with fail
            refine bodyPost_ret_by (v := .agg #[.int .i64 0, .int .i64 (-1)]) ?_ rfl ?_
            · simp [results, Tryd.results18, go_sem, y0, y1]
            · exact HF5.out _ _
      · have hck : check N T = some (3, none) := check_form hlim (by rw [← hm, ← hn]; exact h4)
        have h4i : ¬ (m : Int) = (n : Int) := by omega
        have HF4 := hide (fun W x_ y_ (hW : Below wB.heap.size wB W) => HFIN.out W x_ y_ 3 (-1) hW (by rw [hck]; rfl) (by rw [hck]; rfl))
        have HBA4 := hide (fun W => bare0_any 3 W)
        unfold faultV at HBA4
        clear hck hn hm hzA hlim
        go_enter Tryd.func18, Tryd.ntmps18
        go_wp2_with fail
        rw [← hwA, ← hwB]
        clear hwA hwB
        refine (HW1.out _).mono ?_
        rintro e w' ⟨rfl, rfl⟩
        go_wp2_with fail
        refine (HBA4.out _).mono ?_
        rintro e w2 ⟨rfl, hb2⟩
        obtain ⟨y0, y1, y2, y3, _⟩ := HRW.out w2 hb2
        have HF5 := hide (fun x_ y_ => HF4.out w2 x_ y_ hb2)
        clear hb2
        go_wp2_with fail
        refine bodyPost_ret_by (v := .agg #[.int .i64 3, .int .i64 (-1)]) ?_ rfl ?_
        · simp [results, Tryd.results18, go_sem, y0, y1]
        · exact HF5.out _ _
  · have hck : check N T = some (4, none) := check_limit (by rw [← hn]; omega)
    have HF4 := hide (fun W x_ y_ (hW : Below wB.heap.size wB W) => HFIN.out W x_ y_ 4 (-1) hW (by rw [hck]; rfl) (by rw [hck]; rfl))
    have hw1 : (Decidable.decide ((1 : Int) ≤ (n : Int)) && Decidable.decide ((n : Int) ≤ 500)) = false := by
      by_cases h2 : 1 ≤ n
      · have : ¬ (n : Int) ≤ 500 := by omega
        simp [this]
      · have : ¬ (1 : Int) ≤ (n : Int) := by omega
        simp [this]
    have HW1 := hide (fun W => HWI.out (n : Int) 1 500 W)
    rw [hw1] at HW1
    have HBA4 := hide (fun W => bare0_any 4 W)
    unfold faultV at HBA4
    clear hw1 hck hn hm hzA
    go_enter Tryd.func18, Tryd.ntmps18
    go_wp2_with fail
    rw [← hwA, ← hwB]
    clear hwA hwB
    refine (HW1.out _).mono ?_
    rintro e w' ⟨rfl, rfl⟩
    go_wp2_with fail
    refine (HBA4.out _).mono ?_
    rintro e w2 ⟨rfl, hb2⟩
    obtain ⟨y0, y1, y2, y3, _⟩ := HRW.out w2 hb2
    have HF5 := hide (fun x_ y_ => HF4.out w2 x_ y_ hb2)
    clear hb2
    go_wp2_with fail
    refine bodyPost_ret_by (v := .agg #[.int .i64 4, .int .i64 (-1)]) ?_ rfl ?_
    · simp [results, Tryd.results18, go_sem, y0, y1]
    · exact HF5.out _ _
end Bk
end Go.Proofs.YtdeijfkahhgojaaDoor
