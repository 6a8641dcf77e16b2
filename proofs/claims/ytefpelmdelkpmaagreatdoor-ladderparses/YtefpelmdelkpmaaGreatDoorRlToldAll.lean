/-
  The walk of package ladder's Text. The walk of the document's Told, at one number.
-/
import Derived.Test.YtefpelmdelkpmaaGreatDoorLdTextRAll
import Derived.Test.YtefpelmdelkpmaaGreatDoorLdBack
import Derived.Test.YtefpelmdelkpmaaGreatDoorRlLineAll
import Derived.Test.YtefpelmdelkpmaaGreatDoorRpRuneAll
import Derived.Test.YtefpelmdelkpmaaGreatDoorRxText
namespace Go.Proofs.YtefpelmdelkpmaaGreatDoor
section
open Go.RowKit
namespace Ld
theorem ended_snoc (ls : List (List UInt8)) (k : Nat) (h : k < ls.length) : ended (ls.take (k + 1)) = ended (ls.take k) ++ (ls[k] ++ [10]) := by
  unfold ended
  rw [List.take_succ_eq_append_getElem h, List.map_append, List.flatten_append]
  simp
theorem nameT_len (n : Nme) (h1 : Nm.name n.name = true) (h2 : 1 ≤ n.kind) (h3 : n.kind ≤ 4) (h4 : mayCount n.kind n.count = true) : (nameT n).length ≤ 20 := by
  have hn : n.name.length ≤ 8 := by
    unfold Nm.name at h1
    simp only [Bool.and_eq_true, decide_eq_true_eq] at h1
    exact h1.1.1.1.2
  have hi : (if counted n.kind then 32 :: Lib.itoa n.count else []).length ≤ 2 := by
    cases hc : counted n.kind with
    | false => simp
    | true =>
      have : 1 ≤ n.count ∧ n.count ≤ 7 := by simpa [mayCount, hc] using h4
      rw [if_pos rfl, List.length_cons, itoa_len _ (by omega)]; exact Nat.le_refl _
  have hw : (nameW n.kind.toNat).length ≤ 7 := by rcases kind4 n.kind ⟨h2, h3⟩ with e | e | e | e <;> rw [e] <;> decide
  unfold nameT
  simp only [List.length_append, List.length_cons, List.length_nil]
  omega
theorem rungT_len (r : Rng) (h1 : Nm.name r.name = true) (h2 : 1 ≤ r.kind) (h3 : r.kind ≤ 6) : (rungT r).length ≤ 20 + (condT r.cond).length := by
  have hn : r.name.length ≤ 8 := by
    unfold Nm.name at h1
    simp only [Bool.and_eq_true, decide_eq_true_eq] at h1
    exact h1.1.1.1.2
  have hw : (if r.kind = 1 then [] else rungW r.kind.toNat ++ [32]).length ≤ 6 := by
    rcases kind6 r.kind ⟨h2, h3⟩ with e | e | e | e | e | e <;> rw [e] <;> decide
  unfold rungT headT
  simp only [List.length_append, List.length_cons, List.length_nil]
  omega
theorem ended_len (ls : List (List UInt8)) (M : Nat) (h : ∀ a, a ∈ ls → a.length ≤ M) : (ended ls).length ≤ (M + 1) * ls.length := by
  induction ls with
  | nil => simp [ended]
  | cons a r ih =>
    have h1 := ih fun b hb => h b (by simp [hb])
    have h2 := h a (by simp)
    have e : ended (a :: r) = a ++ 10 :: ended r := by simp [ended]
    rw [e, List.length_append, List.length_cons, List.length_cons, Nat.mul_add, Nat.mul_one]
    omega
theorem name8 (n : List UInt8) (h1 : Nm.name n = true) : n.length ≤ 8 := by
  unfold Nm.name at h1
  simp only [Bool.and_eq_true, decide_eq_true_eq] at h1
  exact h1.1.1.1.2
end Ld
theorem IsEx.under {b : Nat} {w w' : World} {x : Ex} {v : Value} (h : IsEx (fun _ => True) w x v) (hb : Below w.heap.size w w') (hl : w.heap.size ≤ b) : IsEx (fun g => g < b) w' x v :=
  IsEx.stay (Stay.below hb) (fun _ hg => Nat.lt_of_lt_of_le hg.2 hl) x v (IsEx.lt x v h)
set_option maxHeartbeats 4000000 in
set_option maxRecDepth 100000 in
theorem LText_any (p : Ld.Prg) (v : Value) (w : World) (h : IsPrg w p v) (hW : Words w) (hP : Pows w) (hG : 14 ≤ w.heap.size) :
    Calls Tryz.prog 13 #[v] w fun e w' => e = .returned (.string ⟨(Ld.text p).toArray⟩) ∧ Below w.heap.size w w' := by
  have HP := hide h
  obtain ⟨nv, rv, rfl, hn, hr⟩ := h
  have HNA := hide hn
  have HRA := hide hr
  obtain ⟨na, nc, rfl, hn1⟩ := hn.slice
  obtain ⟨ra, rc, rfl, hr1⟩ := hr.slice
  clear hn hr
  obtain ⟨wA, hwA⟩ : ∃ wA, wA = w.alloc (.cells #[.slice na p.names.length nc, .slice ra p.rungs.length rc] 28) := ⟨_, rfl⟩
  have hbA : Below w.heap.size w wA := by rw [hwA]; exact (Below.refl _ _).alloc (Nat.le_refl _) _
  have hsA : wA.heap.size = w.heap.size + 1 := by rw [hwA]; simp
  have HBX : Hid (∀ (b : Nat) (W : World), wA.heap.size ≤ b → Below b wA W → W.cell? ⟨w.heap.size, 0, none⟩ = some (.slice na p.names.length nc) ∧ W.cell? ⟨w.heap.size, 1, none⟩ = some (.slice ra p.rungs.length rc)) := by
    intro b W hb hW
    have q1 : w.heap.size < b := by omega
    rw [hW.cell (p := ⟨w.heap.size, 0, none⟩) q1, hW.cell (p := ⟨w.heap.size, 1, none⟩) q1, hwA]
    simp [go_sem]
  have HC := hide (Check_any p _ wA (HP.out.below hbA))
  have HWA := hide hwA
  have HBA := hide hbA
  have HSA := hide hsA
  rw [hwA] at HC
  clear hwA hbA HP hsA
  cases hck : Ld.check p with
  | some r =>
    have HT : Hid (Ld.text p = []) := by show _ = _; unfold Ld.text; rw [if_neg (by rw [hck]; simp)]
    rw [hck] at HC
    go_enter Tryz.func13, Tryz.ntmps13
    go_wp2_with fail
    refine HC.out.mono ?_
    rintro e w1 ⟨er, rfl, her, hb1⟩
    rw [← HWA.out] at hb1
    have HB1 := hide (HBA.out.trans (hb1.mono HBA.out.size))
    obtain ⟨tu, yu, hiu⟩ : ∃ tu yu, er = .iface tu yu := by
      match r, her with
      | (e, none), h => exact ⟨_, _, h⟩
      | (e, some q), ⟨a, h, _⟩ => exact ⟨_, _, h⟩
    subst hiu
    clear her hb1 HC
    go_wp2_with fail
    go_ret
    exact ⟨by rw [HT.out]; rfl, HB1.out⟩
  | none =>
    have HT : Hid (Ld.text p = Ld.ended (Ld.linesT p)) := by show _ = _; unfold Ld.text; rw [if_pos hck]
    rw [hck] at HC
    obtain ⟨k1, k2, k3, k4⟩ := Ld.check_names p hck
    have HNS := hide k3
    have HRS := hide k4
    clear k3 k4 hck
    obtain ⟨n, hnn⟩ : ∃ n, n = p.names.length := ⟨_, rfl⟩
    obtain ⟨m, hmm⟩ : ∃ m, m = p.rungs.length := ⟨_, rfl⟩
    have HN := hide hnn
    have HM := hide hmm
    rw [← hnn] at HC HWA HBX k1 HNA hn1
    rw [← hmm] at HC HWA HBX k2 HRA hr1
    rw [← hnn, ← hmm]
    clear hnn hmm
    have HW0 := hide hW
    have HP0 := hide hP
    clear hW hP
    go_enter Tryz.func13, Tryz.ntmps13
    go_wp2_with fail
    refine HC.out.mono ?_
    rintro e w1 ⟨er, rfl, her, hb1⟩
    rw [← HWA.out] at hb1
    obtain rfl : er = .nilIface := her
    have hs1 := hb1.size
    have HB1 := hide hb1
    obtain ⟨p0, p1⟩ := HBX.out _ w1 (Nat.le_refl _) hb1
    have hw1lt : w.heap.size < w1.heap.size := by have := HSA.out; omega
    obtain ⟨wB, hwB⟩ : ∃ wB, wB = w1.alloc (.cells #[.pointer none, .slice none 0 0] 88) := ⟨_, rfl⟩
    have HWB := hide hwB
    have HBLD : Hid (Bld w1.heap.size (Lib.byteCells []) wB) := by show Bld _ _ _; rw [hwB]; exact Lib.fresh_isBuilder 88 5 w1
    have hbB1 : Below w1.heap.size w1 wB := by rw [hwB]; exact (Below.refl _ _).alloc (Nat.le_refl _) _
    have HOLD : Hid (∀ W, Kb w1.heap.size wB W → (W.cell? ⟨w.heap.size, 0, none⟩ = some (.slice na n nc) ∧ W.cell? ⟨w.heap.size, 1, none⟩ = some (.slice ra m rc)) ∧ Below w.heap.size w W ∧ Words W ∧ Pows W) := by
      intro W hK
      have q1 : Below wA.heap.size wA W := HB1.out.trans ((hbB1.trans hK.1).mono hs1)
      have q2 : Below w.heap.size w W := HBA.out.trans (q1.mono HBA.out.size)
      exact ⟨HBX.out _ W (Nat.le_refl _) q1, q2, HW0.out.low q2 hG, HP0.out.low q2 hG⟩
    clear HC hwB hbB1
    generalize hbb : w1.heap.size = b at *
    have HBE := hide hbb
    have hGb : 14 ≤ b := by omega
    have hlt1 : w.heap.size < w1.heap.size := by rw [hbb]; exact hw1lt
    clear hbb
    go_wp2_with fail
    rw [HBE.out, ← HWB.out]
    go_loopw [14] (fun i wr => ∃ k : Nat, k ≤ n ∧ i = .int .i64 (k : Int) ∧ Hid (Bld b (Lib.byteCells (Ld.ended ((p.names.map Ld.nameT).take k))) wr) ∧ Hid (Kb b wB wr)) (fun i _ => n - (intOf i).toNat)
    case atStart => exact ⟨0, Nat.zero_le _, rfl, HBLD.out, Kb.refl _ _⟩
    case round =>
      obtain ⟨k, hk, rfl, HBL, HKB⟩ := hrel
      obtain ⟨⟨c0, c1⟩, hbw, hWr, hPr⟩ := HOLD.out wr HKB.out
      have HBW := hide hbw
      have HWR := hide hWr
      have HPR := hide hPr
      clear hbw hWr hPr
      have hlenk : (Ld.ended ((p.names.map Ld.nameT).take k)).length ≤ 1000000 := by
        have h1 := Ld.ended_len ((p.names.map Ld.nameT).take k) 20 (fun a ha => by
          obtain ⟨y, hy, rfl⟩ := List.mem_map.1 (List.mem_of_mem_take ha)
          obtain ⟨q1, q2, q3, q4⟩ := HNS.out y hy
          exact Ld.nameT_len y q1 q2 q3 q4)
        have h2 : ((p.names.map Ld.nameT).take k).length ≤ 12 := by rw [List.length_take, List.length_map]; omega
        omega
      by_cases hlt : k < n
      · have hkl : k < p.names.length := by rw [← HN.out]; exact hlt
        obtain ⟨g, rfl, hca, e1, e2, e3, _⟩ : ∃ g, na = some ⟨g, 0, none⟩ ∧ n ≤ nc ∧ NameAt wr g k p.names[k] := by
          rcases HNA.out.below HBW.out with ⟨h0, _⟩ | ⟨g, cap, h1, h2, h3, h4⟩
          · rw [h0] at hkl; simp at hkl
          · simp only [Value.slice.injEq] at h1
            exact ⟨g, h1.1, by rw [h1.2.2, h1.2.1]; exact h2, h4 k _ (List.getElem?_eq_getElem hkl)⟩
        obtain ⟨q1, q2, q3, q4⟩ := HNS.out _ (List.getElem_mem hkl)
        have HEN := hide (Ld.ended_snoc (p.names.map Ld.nameT) k (by simpa using hkl))
        simp only [List.getElem_map] at HEN
        have hgw : g < wr.heap.size := World.block_lt_of_cell? _ _ e1
        have hq8 := Ld.name8 _ q1
        generalize p.names[k] = y at *
        obtain ⟨ynm, yk, yc⟩ := y
        simp only at e1 e2 e3 q1 q2 q3 q4 hq8
        obtain ⟨yn, rfl⟩ : ∃ yn : Nat, yk = (yn : Int) := ⟨yk.toNat, by omega⟩
        have hbl := HBL.out.lt
        obtain ⟨wD, hwD⟩ : ∃ wD, wD = wr.alloc (.cells #[.string ⟨ynm.toArray⟩, .int .i64 (yn : Int), .int .i64 yc] 34) := ⟨_, rfl⟩
        have hbD : Below wr.heap.size wr wD := by rw [hwD]; exact (Below.refl _ _).alloc (Nat.le_refl _) _
        have hbDb : Below b wr wD := hbD.mono (by omega)
        have HKD := hide (HKB.out.trans (Kb.of_below hbD (by omega)))
        have HCW := hide (writeName_any b _ ynm yn yc wD (HBL.out.below hbD) (HWR.out.low hbDb hGb) (HPR.out.low hbDb hGb) hGb (by omega) q4 hq8 hlenk)
        rw [hwD] at HCW
        have HWD := hide hwD
        clear hbD hwD hbDb q1 q2 q3 q4
        go_wp2_with fail
        refine HCW.out.mono ?_
        rintro e w3 ⟨rfl, hb3, hk3⟩
        rw [← HWD.out] at hk3
        rw [← HEN.out] at hb3
        have HB3 := hide hb3
        have HK3 := hide (HKD.out.trans hk3)
        clear hb3 hk3 HCW
        go_wp2_with fail
        go_roundw
        case rel => exact ⟨k + 1, by omega, by go_num, HB3.out, HK3.out⟩
        case measure => simp [intOf]; omega
      · have hkn : k = n := by omega
        have htk : (p.names.map Ld.nameT).take k = p.names.map Ld.nameT := List.take_of_length_le (by rw [List.length_map, ← HN.out, hkn]; exact Nat.le_refl _)
        rw [htk] at HBL hlenk
        subst hkn
        clear hlt hk htk
        go_wp2_with fail
        go_loopw [24] (fun i wr => ∃ j : Nat, j ≤ m ∧ i = .int .i64 (j : Int) ∧ Hid (Bld b (Lib.byteCells (Ld.ended (p.names.map Ld.nameT) ++ Ld.ended ((p.rungs.map Ld.rungT).take j))) wr) ∧ Hid (Kb b wB wr)) (fun i _ => m - (intOf i).toNat)
        case atStart => exact ⟨0, Nat.zero_le _, rfl, hide (by simpa [Ld.ended] using HBL.out), HKB.out⟩
        case round =>
          clear HBL HKB c0 c1 HBW HWR HPR
          obtain ⟨j, hj, rfl, HBL, HKB⟩ := hrel
          obtain ⟨⟨c0, c1⟩, hbw, hWr, hPr⟩ := HOLD.out wr HKB.out
          have HBW := hide hbw
          have HWR := hide hWr
          clear hbw hWr hPr
          have HCT : Hid (∀ (i : Nat) (r : Ld.Rng), p.rungs[i]? = some r → (Ld.condT r.cond).length ≤ 1000000) := by
            intro i r hi
            rcases HRA.out with ⟨h0, _⟩ | ⟨g, cap, h1, h2, h3, h4⟩
            · rw [h0] at hi; simp at hi
            · obtain ⟨u, _, _, _, _, _, hcd⟩ := h4 i r hi
              cases hc : r.cond with
              | none => simp [Ld.condT]
              | some x => rw [hc] at hcd; exact hcd.2.2
          have hlenj : (Ld.ended (p.names.map Ld.nameT) ++ Ld.ended ((p.rungs.map Ld.rungT).take j)).length ≤ 50000000 := by
            have h1 := Ld.ended_len ((p.rungs.map Ld.rungT).take j) 1000020 (fun a ha => by
              obtain ⟨y, hy, rfl⟩ := List.mem_map.1 (List.mem_of_mem_take ha)
              obtain ⟨q1, q2, q3, _⟩ := HRS.out y hy
              have := Ld.rungT_len y q3 q1 q2
              obtain ⟨i, hi, rfl⟩ := List.getElem_of_mem hy
              have := HCT.out i _ (List.getElem?_eq_getElem hi)
              omega)
            have h2 : ((p.rungs.map Ld.rungT).take j).length ≤ 40 := by rw [List.length_take, List.length_map]; omega
            rw [List.length_append]
            omega
          by_cases hlt : j < m
          · have hjl : j < p.rungs.length := by rw [← HM.out]; exact hlt
            obtain ⟨g, rfl, hca, u, e1, e2, e3, e4, e5, e6⟩ : ∃ g, ra = some ⟨g, 0, none⟩ ∧ m ≤ rc ∧ RungAt w g j p.rungs[j] := by
              rcases HRA.out with ⟨h0, _⟩ | ⟨g, cap, h1, h2, h3, h4⟩
              · rw [h0] at hjl; simp at hjl
              · simp only [Value.slice.injEq] at h1
                exact ⟨g, h1.1, by rw [h1.2.2, h1.2.1]; exact h2, h4 j _ (List.getElem?_eq_getElem hjl)⟩
            have c1 := (HBW.out.cell (World.block_lt_of_cell? _ _ e1)).trans e1
            have c2 := (HBW.out.cell (World.block_lt_of_cell? _ _ e2)).trans e2
            have c3 := (HBW.out.cell (World.block_lt_of_cell? _ _ e3)).trans e3
            obtain ⟨q1, q2, q3, x, q4, _⟩ := HRS.out _ (List.getElem_mem hjl)
            have HEN := hide (Ld.ended_snoc (p.rungs.map Ld.rungT) j (by simpa using hjl))
            simp only [List.getElem_map] at HEN
            have hgw : g < wr.heap.size := World.block_lt_of_cell? _ _ c1
            have hq8 := Ld.name8 _ q3
            generalize p.rungs[j] = y at *
            obtain ⟨yk, ynm, yc⟩ := y
            simp only at c1 c2 q1 q2 q3 q4 hq8 e6
            subst q4
            obtain ⟨hx, hxs, hxt⟩ := e6
            obtain ⟨yn, rfl⟩ : ∃ yn : Nat, yk = (yn : Int) := ⟨yk.toNat, by omega⟩
            have hbl := HBL.out.lt
            obtain ⟨tu, yu, hiu⟩ := IsEx.iface x u hx
            subst hiu
            obtain ⟨wD, hwD⟩ : ∃ wD, wD = wr.alloc (.cells #[.int .i64 (yn : Int), .string ⟨ynm.toArray⟩, .iface tu yu] 44) := ⟨_, rfl⟩
            have hbD : Below wr.heap.size wr wD := by rw [hwD]; exact (Below.refl _ _).alloc (Nat.le_refl _) _
            have hbDb : Below b wr wD := hbD.mono (by omega)
            have hbDw : Below w.heap.size w wD := HBW.out.trans (hbD.mono HBW.out.size)
            have HKD := hide (HKB.out.trans (Kb.of_below hbD (by omega)))
            have HCW := hide (writeRung_any b _ ynm yn x _ wD (HBL.out.below hbD) (HWR.out.low hbDb hGb) hGb (by omega) (IsEx.under hx hbDw (by omega)) hq8 hlenj hxt)
            rw [hwD] at HCW
            have HWD := hide hwD
            clear hbD hwD hbDb hbDw q1 q2 q3 e1 e2 e3 e4 e5 hx
            go_wp2_with fail
            refine HCW.out.mono ?_
            rintro e w3 ⟨rfl, hb3, hk3⟩
            rw [← HWD.out] at hk3
            rw [List.append_assoc, ← HEN.out] at hb3
            have HB3 := hide hb3
            have HK3 := hide (HKD.out.trans hk3)
            clear hb3 hk3 HCW
            go_wp2_with fail
            go_roundw
            case rel => exact ⟨j + 1, by omega, by go_num, HB3.out, HK3.out⟩
            case measure => simp [intOf]; omega
          · have hjm : j = m := by omega
            have htk : (p.rungs.map Ld.rungT).take j = p.rungs.map Ld.rungT := List.take_of_length_le (by rw [List.length_map, ← HM.out, hjm]; exact Nat.le_refl _)
            have HTX : Hid (Ld.ended (p.names.map Ld.nameT) ++ Ld.ended (p.rungs.map Ld.rungT) = Ld.text p) := by
              show _ = _
              rw [HT.out, Ld.linesT]
              unfold Ld.ended
              rw [List.map_append, List.flatten_append]
            rw [htk, HTX.out] at HBL
            subst hjm
            have hbl := HBL.out.lt
            have HST := hide (Tryz.Builder_String_any b b (Ld.text p) wr HBL.out (by omega))
            have HTT : Hid (∃ T, T = Ld.text p) := ⟨_, rfl⟩
            obtain ⟨T, hT⟩ := HTT.out
            have HT2 := hide hT
            rw [← hT] at HST
            clear hT HTT
            go_wp2_with fail
            refine HST.out.mono ?_
            rintro e w4 ⟨rfl, hb4⟩
            have HB4 := hide (HBW.out.trans (hb4.mono (by omega)))
            clear hb4 HST
            go_wp2_with fail
            go_ret
            exact ⟨by rw [← HT2.out]; rfl, HB4.out⟩
end
section
open Go.RowKit
theorem Tryz.infoTx : (Tryz.prog.info? 9).map (fun i => (i.zero, i.size, i.bytes)) = some (some (.string ⟨#[]⟩), 1, 16) := by kernel_rfl
set_option maxHeartbeats 4000000 in
set_option maxRecDepth 100000 in
theorem rtold_any (b : Nat) (c : Int) (w : World) (hc : w.cell? ⟨b, 0, none⟩ = some (.int .i64 c)) (h64 : I64 c) (hlen : (Lib.itoa c).length ≤ 100) (hp : Pows w) (hlow : 9 < w.heap.size) :
    Calls Tryz.prog 36 #[.slice (some ⟨b, 0, none⟩) 1 1] w fun e w' => e = .returned (.string ⟨(Lib.itoa c).toArray⟩) ∧ Below w.heap.size w w' := by
  obtain ⟨i0, hi0, hz0, hz1, hz2⟩ := info_parts Tryz.infoTx
  have HIT : Hid (∀ W, Below w.heap.size w W → Calls Tryz.prog 64 #[.int .i64 c] W fun e w' => e = .returned (.string ⟨(Lib.itoa c).toArray⟩) ∧ Below W.heap.size W w') := by
    intro W hW
    refine (Tryz.strconv_Itoa c h64.1 h64.2 W (hp.block (hW.block _ hlow))).mono ?_
    rintro e w4 ⟨rfl, kk, os, rfl⟩
    exact ⟨rfl, bgrow _ _ _⟩
  have HJN : Hid (∀ (W : World) (g cap : Nat), W.cell? ⟨g, 0, none⟩ = some (.string ⟨(Lib.itoa c).toArray⟩) → 1 ≤ cap → Calls Tryz.prog 66 #[.slice (some ⟨g, 0, none⟩) 1 cap, .string ⟨#[32]⟩] W fun e w' => e = .returned (.string ⟨(Lib.itoa c).toArray⟩) ∧ Below W.heap.size W w') := by
    intro W g cap hg hcap
    have h1 : Lib.join ([(⟨(Lib.itoa c).toArray⟩ : ByteArray)].map (·.data.toList)) (⟨#[32]⟩ : ByteArray).data.toList = Lib.itoa c := by simp [Lib.join]
    have h2 := Tryz.strings_Join g 0 cap [⟨(Lib.itoa c).toArray⟩] ⟨#[32]⟩ W (fun j x hx => by
      match j, hx with
      | 0, hx => simp at hx; subst hx; exact hg
      | j + 1, hx => simp at hx) (World.block_lt_of_cell? _ _ hg) (by simp) hcap (by rw [h1]; omega)
    rw [h1] at h2
    exact h2
  generalize Lib.itoa c = ic at *
  clear hp
  go_enter Tryz.func36, Tryz.ntmps36
  go_wp2_with fail
  go_loopw [3, 8] (fun l i wr => (i = .int .i64 0 ∧ l = .slice none 0 0 ∧ Hid (wr = w)) ∨ ∃ g cap, i = .int .i64 1 ∧ l = .slice (some ⟨g, 0, none⟩) 1 cap ∧ Hid (wr.ownsRow w.heap.size 9 1 (.slice (some ⟨g, 0, none⟩) 1 cap) 1 [.string ⟨ic.toArray⟩]) ∧ Hid (Below w.heap.size w wr)) (fun _ i _ => 1 - (intOf i).toNat)
  case atStart => exact .inl ⟨rfl, rfl, rfl⟩
  case round =>
    rcases hrel with ⟨rfl, rfl, HW⟩ | ⟨g, cap, rfl, rfl, HO, HB⟩
    · obtain rfl := HW.out
      have HI := hide (HIT.out wr (Below.refl _ _))
      go_wp2_with fail
      refine HI.out.mono ?_
      rintro e w1 ⟨rfl, hb1⟩
      have HB1 := hide hb1
      have hz1' := hb1.size
      have HONE : Hid (∀ u ∈ [Value.string ⟨ic.toArray⟩], u.oneCell' = true) := by
        intro u hu
        simp only [List.mem_cons, List.not_mem_nil, or_false] at hu
        subst hu; rfl
      clear hb1 HI
      go_wp2_with (at_builtin; refine wpList_append_lies _ rfl (.tmp 12) (.tmp 15) 74 rfl wr.heap.size 9 i0 _ 1 16 Tryz.underlying74 hi0 hz0 hz1 hz2 rfl (by decide) (.slice none 0 0) 0 [] rfl (World.ownsRow_nil _ _ _ _) ⟨w1.heap.size, 0, none⟩ 1 1 [.string ⟨ic.toArray⟩] rfl rfl (World.news_of_block (heap_alloc_new w1 _)) HONE.out (by decide) (by unfold maxLen; omega) (by omega) (by simp; omega) (w1.heap.size + 1) (by simp) ?_; intro g2 cap2 wC hown hgrow hat hltg; have HOC := hide hown; have HBC := hide ((HB1.out.alloc HB1.out.size _).grown hgrow (by simp; omega) (fun j e => by cases e)); clear hown hgrow hat)
      exact ⟨.inr ⟨g2, cap2, rfl, rfl, HOC.out, HBC.out⟩, by simp [intOf]⟩
    · have hcell : wr.cell? ⟨g, 0, none⟩ = some (.string ⟨ic.toArray⟩) ∧ 1 ≤ cap := by
        rcases HO.out.2 with ⟨hx, _⟩ | ⟨g', cap', cur, hx, _, hcur, hcap, _, _, htk⟩
        · cases hx
        · simp only [Value.slice.injEq, Option.some.injEq, Addr.mk.injEq, true_and, and_true] at hx
          obtain ⟨rfl, rfl⟩ := hx
          exact ⟨row_cell hcur htk rfl, hcap⟩
      have HJ := hide (HJN.out wr g cap hcell.1 hcell.2)
      clear hcell
      go_wp2_with fail
      refine HJ.out.mono ?_
      rintro e w2 ⟨rfl, hb2⟩
      have HB2 := hide (HB.out.trans (hb2.mono HB.out.size))
      clear hb2 HJ
      go_wp2_with fail
      go_ret
      exact ⟨rfl, HB2.out⟩
end
end Go.Proofs.YtefpelmdelkpmaaGreatDoor
