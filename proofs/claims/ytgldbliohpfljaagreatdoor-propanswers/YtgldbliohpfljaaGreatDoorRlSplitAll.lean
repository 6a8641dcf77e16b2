/-
  The walk of the document's ProgramCheck. What the document's ProgramParse has read so far, in memory: a block with two slices, two slices of places, each row its own. A text cut at one byte, as the library cuts it: plain.
-/
import Derived.Test.YtgldbliohpfljaaGreatDoorRpPieceAll
import Derived.Test.YtgldbliohpfljaaGreatDoorNdNamedAll
import Derived.Test.YtgldbliohpfljaaGreatDoorLdKindAll
import Derived.Deep.RegionHeld3
import Derived.Test.YtgldbliohpfljaaGreatDoorRpRuneAll
import Derived.Test.YtgldbliohpfljaaGreatDoorRtParseAll
import Derived.Lib.SplitLaws
namespace Go.Proofs.YtgldbliohpfljaaGreatDoor
section
open Go.RowKit
/-- what is wrong, as the document tells it -/
def faultOf : Option (Nat × Option Nat) → Value
  | none => faultV 0 (-1)
  | some (e, none) => faultV (e : Int) (-1)
  | some (e, some i) => faultV (e : Int) (i : Int)
/-- what stands while a program is checked -/
structure RC (w : World) (nv rv : Value) (W : World) : Prop where
  bel : Below w.heap.size w W
  prg : W.heap[w.heap.size]? = some (.cells #[nv, rv] 45 (0, 0))
  box : Box (w.heap.size + 1) W
  more : w.heap.size + 1 < W.heap.size
theorem RC.below {w W W' : World} {nv rv : Value} (h : RC w nv rv W) (hb : Below W.heap.size W W') : RC w nv rv W' :=
  ⟨h.bel.trans (hb.mono h.bel.size), (hb.block _ (Array.getElem?_eq_some_iff.1 h.prg).1).trans h.prg, h.box.of_block (hb.block _ h.more), Nat.lt_of_lt_of_le h.more hb.size⟩
theorem RC.start (w : World) (nv rv : Value) : RC w nv rv ((w.alloc (.cells #[nv, rv] 45)).alloc (.cells #[.int .i64 0, .int .i64 0] 93)) := by
  refine ⟨((Below.refl _ _).alloc (Nat.le_refl _) _).alloc (by simp) _, ?_, ?_, by simp⟩
  · rw [Below.heap_alloc _ _ _ (by simp)]; exact heap_alloc_new _ _
  · have := Box.new (w.alloc (.cells #[nv, rv] 45))
    rw [World.size_alloc] at this
    exact this
theorem RC.put {w W : World} {nv rv : Value} (h : RC w nv rv W) (x y : Int) : Below w.heap.size w ((W.setCell ⟨w.heap.size + 1, 0, none⟩ (.int .i64 x)).setCell ⟨w.heap.size + 1, 1, none⟩ (.int .i64 y)) :=
  (h.bel.setCell (p := ⟨w.heap.size + 1, 0, none⟩) (by show w.heap.size ≤ w.heap.size + 1; omega) _).setCell (p := ⟨w.heap.size + 1, 1, none⟩) (by show w.heap.size ≤ w.heap.size + 1; omega) _
/-- what the document's package reads of its own variables -/
structure RLaid (w : World) : Prop where
  fine : Fine w
  len : ∃ m, w.cell? ⟨4, 0, none⟩ = some (.int .i64 m)
theorem RLaid.below {w w' : World} (h : RLaid w) (hb : Below w.heap.size w w') : RLaid w' := by
  obtain ⟨m, hm⟩ := h.len
  exact ⟨h.fine.below hb, m, (hb.cell (World.block_lt_of_cell? _ _ hm)).trans hm⟩
/-- a text of a slice of texts, as one reads it -/
theorem Strs.at_ {w : World} {sv : Value} {l : List (List UInt8)} (h : Strs w sv (l.map toBA)) : ∃ a c, sv = .slice a l.length c ∧ l.length ≤ 1000000 ∧ ∀ (j : Nat) s, l[j]? = some s → ∃ g o, a = some ⟨g, o, none⟩ ∧ l.length ≤ c ∧ w.cell? ⟨g, o + j, none⟩ = some (.string ⟨s.toArray⟩) := by
  rcases h with ⟨h0, a, c, rfl⟩ | ⟨g, o, cap, rfl, hcap, hlen, hc⟩
  · have h1 : l = [] := by simpa using h0
    subst h1
    exact ⟨a, c, rfl, by simp, fun j s hj => by simp at hj⟩
  · rw [List.length_map] at hcap hlen ⊢
    exact ⟨_, _, rfl, hlen, fun j s hj => ⟨g, o, rfl, hcap, hc j (toBA s) (by rw [List.getElem?_map, hj]; rfl)⟩⟩
theorem rptrNe (w : World) (a : Addr) : (binOp BinOp.eql 28 (.pointer (some a)) (.pointer none)).run Tryz.prog w = .ok (.bool false) w := by kernel_rfl
theorem rptrNo (w : World) : (binOp BinOp.eql 28 (.pointer none) (.pointer none)).run Tryz.prog w = .ok (.bool true) w := by kernel_rfl
theorem known_ordered (ns : List Ld.Nme) (x : Ex) : Ld.known ns x = (ordered (x.named true)).all fun s => decide (0 ≤ Ld.number ns s) := by
  rw [Bool.eq_iff_iff]
  unfold Ld.known
  rw [List.all_eq_true, List.all_eq_true]
  exact ⟨fun h s hs => h s ((mem_ordered _ _).1 hs), fun h s hs => h s ((mem_ordered _ _).2 hs)⟩
set_option maxHeartbeats 8000000 in
set_option maxRecDepth 100000 in
theorem rcheck_any (p : Ld.Prg) (v : Value) (w : World) (h : IsRPrg w p v) (hL : RLaid w) :
    Calls Tryz.prog 113 #[v] w fun e w' => e = .returned (faultOf (Ld.check p)) ∧ Below w.heap.size w w' := by
  obtain ⟨nv, rv, rfl, hn, hr⟩ := h
  have HNA := hide hn
  have HRA := hide hr
  have HL := hide hL
  obtain ⟨na, nc, rfl, hln⟩ := hn.slice
  obtain ⟨ra, rc, rfl, hlr⟩ := hr.slice
  obtain ⟨n, hnn⟩ : ∃ n, n = p.names.length := ⟨_, rfl⟩
  obtain ⟨m, hmm⟩ : ∃ m, m = p.rungs.length := ⟨_, rfl⟩
  have HN := hide hnn
  have HM := hide hmm
  rw [← hnn] at HNA hln ⊢
  rw [← hmm] at HRA hlr ⊢
  have HBIG : Hid (12 < n ∨ 40 < m → Ld.check p = some (4, none)) := fun hb => by
    unfold Ld.check
    rw [← hnn, ← hmm, if_pos hb]
  have HNB : Hid (¬ (12 < n ∨ 40 < m) → ∀ e i, Ld.bad (Ld.nameAt p.names) n = some (e, i) → Ld.check p = some (e, some i)) := fun hb e i he => by
    unfold Ld.check
    rw [← hnn, ← hmm, if_neg hb, he]
  have HRB : Hid (¬ (12 < n ∨ 40 < m) → Ld.bad (Ld.nameAt p.names) n = none → ∀ e i, Ld.bad (Ld.rungAt p) m = some (e, i) → Ld.check p = some (e, some (n + i))) := fun hb hn0 e i he => by
    unfold Ld.check
    rw [← hnn, ← hmm, if_neg hb, hn0, he]
  have HOK : Hid (¬ (12 < n ∨ 40 < m) → Ld.bad (Ld.nameAt p.names) n = none → Ld.bad (Ld.rungAt p) m = none → Ld.check p = none) := fun hb hn0 he => by
    unfold Ld.check
    rw [← hnn, ← hmm, if_neg hb, hn0, he]
  have HRC0 := hide (RC.start w (.slice na n nc) (.slice ra m rc))
  clear hn hr hL hnn hmm
  by_cases hbig : 12 < n ∨ 40 < m
  · have HCK := hide (HBIG.out hbig)
    have HBR := hide (fun W => rbare_any 4 W)
    by_cases h12 : 12 < n
    · have i12 : (12 : Int) < (n : Int) := by omega
      clear hbig
      go_enter Tryz.func113, Tryz.ntmps113
      go_wp2_with fail
      refine (HBR.out _).mono ?_
      rintro e w1 ⟨rfl, hb1⟩
      have hrc := HRC0.out.below hb1
      have HPUT := hide (hrc.box.put 4 (-1))
      have HPB := hide (hrc.put 4 (-1))
      obtain ⟨c0, c1, f0, f1⟩ := hrc.box
      unfold faultV
      clear hrc hb1
      go_wp2_with fail
      refine bodyPost_ret_by (v := faultV 4 (-1)) ?_ rfl ?_
      · simp [results, Tryz.results113, go_sem, faultV, HPUT.out.1, HPUT.out.2]
      · exact ⟨by rw [HCK.out]; rfl, HPB.out⟩
    · have i12 : ¬ (12 : Int) < (n : Int) := by omega
      have i40 : (40 : Int) < (m : Int) := by omega
      clear hbig
      go_enter Tryz.func113, Tryz.ntmps113
      go_wp2_with fail
      refine (HBR.out _).mono ?_
      rintro e w1 ⟨rfl, hb1⟩
      have hrc := HRC0.out.below hb1
      have HPUT := hide (hrc.box.put 4 (-1))
      have HPB := hide (hrc.put 4 (-1))
      obtain ⟨c0, c1, f0, f1⟩ := hrc.box
      unfold faultV
      clear hrc hb1
      go_wp2_with fail
      refine bodyPost_ret_by (v := faultV 4 (-1)) ?_ rfl ?_
      · simp [results, Tryz.results113, go_sem, faultV, HPUT.out.1, HPUT.out.2]
      · exact ⟨by rw [HCK.out]; rfl, HPB.out⟩
  · have i12 : ¬ (12 : Int) < (n : Int) := by omega
    have i40 : ¬ (40 : Int) < (m : Int) := by omega
    have HNB2 := hide (HNB.out hbig)
    have HRB2 := hide (HRB.out hbig)
    have HOK2 := hide (HOK.out hbig)
    have HWIN := hide (fun a b c W => rwithin_any a b c W)
    clear hbig HBIG HNB HRB HOK
    go_enter Tryz.func113, Tryz.ntmps113
    go_wp2_with fail
    go_loopw [25] (fun i wr => ∃ k : Nat, k ≤ n ∧ i = .int .i64 (k : Int) ∧ Hid (Ld.bad (Ld.nameAt p.names) k = none) ∧ Hid (RC w (.slice na n nc) (.slice ra m rc) wr)) (fun i _ => n - (intOf i).toNat)
    case atStart => exact ⟨0, Nat.zero_le _, rfl, rfl, HRC0.out⟩
    case round =>
      obtain ⟨k, hk, rfl, HBD, HRC⟩ := hrel
      by_cases hlt : k < n
      · have hkl : k < p.names.length := by rw [← HN.out]; exact hlt
        obtain ⟨g, hga, hcap, e1, e2, e3, e4, e5, e6⟩ := (HNA.out.below HRC.out.bel).at_ (List.getElem?_eq_getElem hkl)
        subst hga
        have HAT := hide (Ld.nameAt_at p.names k hkl)
        have HHIT : Hid (Ld.nameAt p.names k ≠ 0 → Ld.check p = some (Ld.nameAt p.names k, some k)) := fun h0 => HNB2.out _ _ (Ld.bad_hit _ k n HBD.out h0 hlt)
        have HON : Hid (Ld.nameAt p.names k = 0 → Ld.bad (Ld.nameAt p.names) (k + 1) = none) := fun h0 => Ld.bad_on _ k HBD.out h0
        have HLE : Hid (Ld.number p.names p.names[k].name ≤ (k : Int)) := by
          show _ ≤ _
          rcases Ld.number_cases p.names p.names[k].name with ⟨h1, h2⟩ | ⟨j, hj, h1, h2, h3⟩
          · exact (h2 _ (List.getElem_mem hkl) rfl).elim
          · rw [h1]
            refine Classical.byContradiction fun hc => ?_
            exact h3 k (by omega) rfl
        generalize p.names[k] = y at *
        obtain ⟨nm, kd, ct⟩ := y
        dsimp only at e1 e2 e3 e4 HLE
        obtain ⟨wN, hwN⟩ : ∃ wN, wN = wr.alloc (.cells #[.string ⟨nm.toArray⟩, .int .i64 kd, .int .i64 ct] 144) := ⟨_, rfl⟩
        have HRN : Hid (RC w (.slice (some ⟨g, 0, none⟩) n nc) (.slice ra m rc) wN) := HRC.out.below (by rw [hwN]; exact (Below.refl _ _).alloc (Nat.le_refl _) _)
        have n0 : wN.cell? ⟨wr.heap.size, 0, none⟩ = some (.string ⟨nm.toArray⟩) := by rw [hwN]; exact Lib.cell_of_heap (heap_alloc_new wr _) 0
        have n1 : wN.cell? ⟨wr.heap.size, 1, none⟩ = some (.int .i64 kd) := by rw [hwN]; exact Lib.cell_of_heap (heap_alloc_new wr _) 1
        have n2 : wN.cell? ⟨wr.heap.size, 2, none⟩ = some (.int .i64 ct) := by rw [hwN]; exact Lib.cell_of_heap (heap_alloc_new wr _) 2
        have HNC : Hid (Calls Tryz.prog 148 #[.string ⟨nm.toArray⟩] wN fun e w' => e = .returned (.bool (Nm.name nm)) ∧ w' = wN) := NameCheck_any ⟨nm.toArray⟩ wN (by show nm.toArray.size ≤ _; simpa using e4)
        have HNU := hide (rNumber_any p.names _ (.slice ra m rc) nm wN (HNA.out.below HRN.out.bel) ⟨_, _, _, rfl⟩)
        have p0 : wN.cell? ⟨w.heap.size, 0, none⟩ = some (.slice (some ⟨g, 0, none⟩) n nc) := Lib.cell_of_heap HRN.out.prg 0
        have p1 : wN.cell? ⟨w.heap.size, 1, none⟩ = some (.slice ra m rc) := Lib.cell_of_heap HRN.out.prg 1
        obtain ⟨c0, c1, f0, f1⟩ := HRN.out.box
        have HWN := hide hwN
        rw [hwN] at HNC
        have hki : (k : Int) < (n : Int) := by omega
        clear hwN e4 e5 e6 hkl
        go_wp2_with fail
        refine HNC.out.mono ?_
        rintro e w1 ⟨rfl, hw1⟩
        rw [hw1, ← HWN.out]
        clear hw1 HNC e1 e2 e3
        cases hnm : Nm.name nm with
        | false =>
          have HCK : Hid (Ld.check p = some (5, some k)) := by
            have hw : Ld.nameAt p.names k = 5 := by rw [HAT.out]; unfold Ld.wrongN; rw [if_pos hnm]
            have h1 := HHIT.out (by rw [hw]; decide)
            rw [hw] at h1
            exact h1
          have HPUT := hide (HRN.out.box.put 5 (k : Int))
          have HPB := hide (HRN.out.put 5 (k : Int))
          clear hnm
          go_wp2_with fail
          refine bodyPost_ret_by (v := faultV 5 (k : Int)) ?_ rfl ?_
          · simp [results, Tryz.results113, go_sem, faultV, HPUT.out.1, HPUT.out.2]
          · exact ⟨by rw [HCK.out]; rfl, HPB.out⟩
        | true =>
          by_cases hk14 : 1 ≤ kd ∧ kd ≤ 4
          · have hb14 : (decide (1 ≤ kd) && decide (kd ≤ 4)) = true := by rw [decide_eq_true hk14.1, decide_eq_true hk14.2]; rfl
            go_wp2_with fail
            refine (HWIN.out _ _ _ _).mono ?_
            rintro e w1 ⟨rfl, hw1⟩
            rw [hw1, hb14]
            clear hw1 hb14
            have HNM := hide hnm
            obtain ⟨u, hu⟩ : ∃ u, u = Ld.number p.names nm := ⟨_, rfl⟩
            rw [← hu] at HNU HLE
            have HU := hide hu
            clear hu hnm
            by_cases h3 : 3 ≤ kd
            · have hcn : Ld.counted kd = true := by
                unfold Ld.counted
                have : kd = 3 ∨ kd = 4 := by omega
                rcases this with rfl | rfl <;> rfl
              have HMC : Hid (Ld.mayCount kd ct = (decide (1 ≤ ct) && decide (ct ≤ 7))) := by show _ = _; unfold Ld.mayCount; rw [hcn]; rfl
              have hk3 : ¬ kd < 3 := by omega
              clear hcn
              go_wp2_with fail
              refine (HWIN.out _ _ _ _).mono ?_
              rintro e w1 ⟨rfl, hw1⟩
              rw [hw1]
              clear hw1
              cases h7 : (decide (1 ≤ ct) && decide (ct ≤ 7)) with
              | true =>
                have HMAY : Hid (Ld.mayCount kd ct = true) := HMC.out.trans h7
                clear h7 HMC
                go_wp2_with fail
                refine HNU.out.mono ?_
                rintro e w2 ⟨rfl, hb2⟩
                have HR2 := hide (HRN.out.below hb2)
                obtain ⟨d0, d1, g0, g1⟩ := HR2.out.box
                clear hb2 HNU c0 c1 f0 f1
                by_cases hnum : u = (k : Int)
                · have HZ : Hid (Ld.nameAt p.names k = 0) := by
                    show _ = _
                    rw [HAT.out]
                    unfold Ld.wrongN; rw [if_neg (by rw [HNM.out]; decide), if_neg (by dsimp only; omega), if_neg (by rw [HMAY.out]; decide), if_neg (by rw [← HU.out]; omega)]
                  have hne : (u == (k : Int)) = true := by rw [hnum]; simp
                  have hne2 : (u != (k : Int)) = false := by rw [hnum]; simp
                  clear hnum
                  go_wp2_with fail
                  exact ⟨⟨k + 1, by omega, by go_num, HON.out HZ.out, HR2.out⟩, by simp [intOf]; omega⟩
                · have HCK : Hid (Ld.check p = some (9, some k)) := by
                    have hw : Ld.nameAt p.names k = 9 := by rw [HAT.out]; unfold Ld.wrongN; rw [if_neg (by rw [HNM.out]; decide), if_neg (by dsimp only; omega), if_neg (by rw [HMAY.out]; decide), if_pos (by rw [← HU.out]; have := HLE.out; omega)]
                    have h1 := HHIT.out (by rw [hw]; decide)
                    rw [hw] at h1
                    exact h1
                  have HPUT := hide (HR2.out.box.put 9 (k : Int))
                  have HPB := hide (HR2.out.put 9 (k : Int))
                  have hne : (u == (k : Int)) = false := by rw [beq_eq_false_iff_ne]; exact hnum
                  have hne2 : (u != (k : Int)) = true := by simpa using hnum
                  clear hnum
                  go_wp2_with fail
                  refine bodyPost_ret_by (v := faultV 9 (k : Int)) ?_ rfl ?_
                  · simp [results, Tryz.results113, go_sem, faultV, HPUT.out.1, HPUT.out.2]
                  · exact ⟨by rw [HCK.out]; rfl, HPB.out⟩
              | false =>
                have HCK : Hid (Ld.check p = some (2, some k)) := by
                  have hw : Ld.nameAt p.names k = 2 := by rw [HAT.out]; unfold Ld.wrongN; rw [if_neg (by rw [HNM.out]; decide), if_neg (by dsimp only; omega), if_pos (HMC.out.trans h7)]
                  have h1 := HHIT.out (by rw [hw]; decide)
                  rw [hw] at h1
                  exact h1
                have HPUT := hide (HRN.out.box.put 2 (k : Int))
                have HPB := hide (HRN.out.put 2 (k : Int))
                clear h7 HMC
                go_wp2_with fail
                refine bodyPost_ret_by (v := faultV 2 (k : Int)) ?_ rfl ?_
                · simp [results, Tryz.results113, go_sem, faultV, HPUT.out.1, HPUT.out.2]
                · exact ⟨by rw [HCK.out]; rfl, HPB.out⟩
            · have hcn : Ld.counted kd = false := by
                unfold Ld.counted
                have : kd = 1 ∨ kd = 2 := by omega
                rcases this with rfl | rfl <;> rfl
              have HMC : Hid (Ld.mayCount kd ct = (ct == 0)) := by show _ = _; unfold Ld.mayCount; rw [hcn]; rfl
              have hk3 : kd < 3 := by omega
              clear hcn
              cases h7 : (ct == 0) with
              | true =>
                have HMAY : Hid (Ld.mayCount kd ct = true) := HMC.out.trans h7
                have h72 : (ct != 0) = false := by simp at h7; simp [h7]
                clear HMC
                go_wp2_with fail
                refine HNU.out.mono ?_
                rintro e w2 ⟨rfl, hb2⟩
                have HR2 := hide (HRN.out.below hb2)
                obtain ⟨d0, d1, g0, g1⟩ := HR2.out.box
                clear hb2 HNU c0 c1 f0 f1
                by_cases hnum : u = (k : Int)
                · have HZ : Hid (Ld.nameAt p.names k = 0) := by
                    show _ = _
                    rw [HAT.out]
                    unfold Ld.wrongN; rw [if_neg (by rw [HNM.out]; decide), if_neg (by dsimp only; omega), if_neg (by rw [HMAY.out]; decide), if_neg (by rw [← HU.out]; omega)]
                  have hne : (u == (k : Int)) = true := by rw [hnum]; simp
                  have hne2 : (u != (k : Int)) = false := by rw [hnum]; simp
                  clear hnum
                  go_wp2_with fail
                  exact ⟨⟨k + 1, by omega, by go_num, HON.out HZ.out, HR2.out⟩, by simp [intOf]; omega⟩
                · have HCK : Hid (Ld.check p = some (9, some k)) := by
                    have hw : Ld.nameAt p.names k = 9 := by rw [HAT.out]; unfold Ld.wrongN; rw [if_neg (by rw [HNM.out]; decide), if_neg (by dsimp only; omega), if_neg (by rw [HMAY.out]; decide), if_pos (by rw [← HU.out]; have := HLE.out; omega)]
                    have h1 := HHIT.out (by rw [hw]; decide)
                    rw [hw] at h1
                    exact h1
                  have HPUT := hide (HR2.out.box.put 9 (k : Int))
                  have HPB := hide (HR2.out.put 9 (k : Int))
                  have hne : (u == (k : Int)) = false := by rw [beq_eq_false_iff_ne]; exact hnum
                  have hne2 : (u != (k : Int)) = true := by simpa using hnum
                  clear hnum
                  go_wp2_with fail
                  refine bodyPost_ret_by (v := faultV 9 (k : Int)) ?_ rfl ?_
                  · simp [results, Tryz.results113, go_sem, faultV, HPUT.out.1, HPUT.out.2]
                  · exact ⟨by rw [HCK.out]; rfl, HPB.out⟩
              | false =>
                have HCK : Hid (Ld.check p = some (2, some k)) := by
                  have hw : Ld.nameAt p.names k = 2 := by rw [HAT.out]; unfold Ld.wrongN; rw [if_neg (by rw [HNM.out]; decide), if_neg (by dsimp only; omega), if_pos (HMC.out.trans h7)]
                  have h1 := HHIT.out (by rw [hw]; decide)
                  rw [hw] at h1
                  exact h1
                have HPUT := hide (HRN.out.box.put 2 (k : Int))
                have HPB := hide (HRN.out.put 2 (k : Int))
                have h72 : (ct != 0) = true := by simpa using h7
                clear HMC
                go_wp2_with fail
                refine bodyPost_ret_by (v := faultV 2 (k : Int)) ?_ rfl ?_
                · simp [results, Tryz.results113, go_sem, faultV, HPUT.out.1, HPUT.out.2]
                · exact ⟨by rw [HCK.out]; rfl, HPB.out⟩
          · have hb14 : (decide (1 ≤ kd) && decide (kd ≤ 4)) = false := by
              rw [Bool.and_eq_false_iff, decide_eq_false_iff_not, decide_eq_false_iff_not]
              omega
            have HCK : Hid (Ld.check p = some (1, some k)) := by
              have hw : Ld.nameAt p.names k = 1 := by rw [HAT.out]; unfold Ld.wrongN; rw [if_neg (by rw [hnm]; decide), if_pos (by dsimp only; omega)]
              have h1 := HHIT.out (by rw [hw]; decide)
              rw [hw] at h1
              exact h1
            have HPUT := hide (HRN.out.box.put 1 (k : Int))
            have HPB := hide (HRN.out.put 1 (k : Int))
            clear hnm hk14
            go_wp2_with fail
            refine (HWIN.out _ _ _ _).mono ?_
            rintro e w1 ⟨rfl, hw1⟩
            rw [hw1, hb14]
            clear hw1 hb14
            go_wp2_with fail
            refine bodyPost_ret_by (v := faultV 1 (k : Int)) ?_ rfl ?_
            · simp [results, Tryz.results113, go_sem, faultV, HPUT.out.1, HPUT.out.2]
            · exact ⟨by rw [HCK.out]; rfl, HPB.out⟩
      · have hkn : k = n := by omega
        subst hkn
        have HBN := hide HBD.out
        have q0 : wr.cell? ⟨w.heap.size, 0, none⟩ = some (.slice na k nc) := Lib.cell_of_heap HRC.out.prg 0
        have q1 : wr.cell? ⟨w.heap.size, 1, none⟩ = some (.slice ra m rc) := Lib.cell_of_heap HRC.out.prg 1
        obtain ⟨wo, rfl⟩ : ∃ wo, wo = wr := ⟨_, rfl⟩
        go_wp2_with fail
        clear q0 q1
        obtain ⟨n, rfl⟩ : ∃ n, n = k := ⟨_, rfl⟩
        go_loopw [75] (fun i wr => ∃ k : Nat, k ≤ m ∧ i = .int .i64 (k : Int) ∧ Hid (Ld.bad (Ld.rungAt p) k = none) ∧ Hid (RC w (.slice na n nc) (.slice ra m rc) wr)) (fun i _ => m - (intOf i).toNat)
        case atStart => exact ⟨0, Nat.zero_le _, rfl, rfl, HRC.out⟩
        case round =>
          clear HRC HBD
          obtain ⟨k, hk, rfl, HBD, HRC⟩ := hrel
          by_cases hlt : k < m
          · have hkl : k < p.rungs.length := by rw [← HM.out]; exact hlt
            obtain ⟨g, hga, hcap, v, e1, e2, e3, e4, e5, e6⟩ := (HRA.out.below HRC.out.bel).at_ (List.getElem?_eq_getElem hkl)
            subst hga
            have HAT := hide (Ld.rungAt_at p k hkl)
            have HHIT : Hid (Ld.rungAt p k ≠ 0 → Ld.check p = some (Ld.rungAt p k, some (n + k))) := fun h0 => HRB2.out HBN.out _ _ (Ld.bad_hit _ k m HBD.out h0 hlt)
            have HON : Hid (Ld.rungAt p k = 0 → Ld.bad (Ld.rungAt p) (k + 1) = none) := fun h0 => Ld.bad_on _ k HBD.out h0
            generalize p.rungs[k] = y at *
            obtain ⟨kd, nm, cd⟩ := y
            dsimp only at e1 e2 e3 e4 e5 e6
            have hv : ∃ q, v = .pointer q := by
              cases cd with
              | none => exact ⟨_, e6⟩
              | some x => obtain ⟨g, h1, _⟩ := e6; exact ⟨_, h1⟩
            obtain ⟨q, rfl⟩ := hv
            obtain ⟨wN, hwN⟩ : ∃ wN, wN = wr.alloc (.cells #[.int .i64 kd, .string ⟨nm.toArray⟩, .pointer q] 195) := ⟨_, rfl⟩
            have hbN : Below wr.heap.size wr wN := by rw [hwN]; exact (Below.refl _ _).alloc (Nat.le_refl _) _
            have HRN : Hid (RC w (.slice na n nc) (.slice (some ⟨g, 0, none⟩) m rc) wN) := HRC.out.below hbN
            have n0 : wN.cell? ⟨wr.heap.size, 0, none⟩ = some (.int .i64 kd) := by rw [hwN]; exact Lib.cell_of_heap (heap_alloc_new wr _) 0
            have n1 : wN.cell? ⟨wr.heap.size, 1, none⟩ = some (.string ⟨nm.toArray⟩) := by rw [hwN]; exact Lib.cell_of_heap (heap_alloc_new wr _) 1
            have n2 : wN.cell? ⟨wr.heap.size, 2, none⟩ = some (.pointer q) := by rw [hwN]; exact Lib.cell_of_heap (heap_alloc_new wr _) 2
            have HCD := hide (e6.below hbN)
            have HNU := hide (rNumber_any p.names _ (.slice (some ⟨g, 0, none⟩) m rc) nm wN (HNA.out.below HRN.out.bel) ⟨_, _, _, rfl⟩)
            have p0 : wN.cell? ⟨w.heap.size, 0, none⟩ = some (.slice na n nc) := Lib.cell_of_heap HRN.out.prg 0
            have p1 : wN.cell? ⟨w.heap.size, 1, none⟩ = some (.slice (some ⟨g, 0, none⟩) m rc) := Lib.cell_of_heap HRN.out.prg 1
            obtain ⟨c0, c1, f0, f1⟩ := HRN.out.box
            have HWN := hide hwN
            have r0 : (wr.alloc (.cells #[.int .i64 kd, .string ⟨nm.toArray⟩, .pointer q] 195)).cell? ⟨w.heap.size, 0, none⟩ = some (.slice na n nc) := by rw [← hwN]; exact p0
            have hki : (k : Int) < (m : Int) := by omega
            have pn := rptrNe
            have pz := rptrNo
            clear hwN e4 e5 e6 hkl hbN
            go_wp2_with fail
            refine (HWIN.out _ _ _ _).mono ?_
            rintro e w1 ⟨rfl, hw1⟩
            rw [hw1, ← HWN.out]
            clear hw1 e1 e2 e3 r0
            by_cases hk16 : 1 ≤ kd ∧ kd ≤ 6
            · have hb16 : (decide (1 ≤ kd) && decide (kd ≤ 6)) = true := by rw [decide_eq_true hk16.1, decide_eq_true hk16.2]; rfl
              rw [hb16]
              clear hb16
              cases cd with
              | none =>
                obtain rfl : q = none := by have := HCD.out; cases this; rfl
                have HCK : Hid (Ld.check p = some (1, some (n + k))) := by
                  have hw : Ld.rungAt p k = 1 := by rw [HAT.out]; unfold Ld.wrongR; rw [if_neg (by dsimp only; omega)]
                  have h1 := HHIT.out (by rw [hw]; decide)
                  rw [hw] at h1
                  exact h1
                have HPUT := hide (HRN.out.box.put 1 ((n : Int) + (k : Int)))
                have HPB := hide (HRN.out.put 1 ((n : Int) + (k : Int)))
                go_wp2_with fail
                refine bodyPost_ret_by (v := faultV 1 ((n : Int) + (k : Int))) ?_ rfl ?_
                · simp [results, Tryz.results113, go_sem, faultV, HPUT.out.1, HPUT.out.2]
                · exact ⟨by rw [HCK.out]; rfl, HPB.out⟩
              | some x =>
                obtain ⟨gx, hqx, hx, hxs, _⟩ := HCD.out
                obtain rfl : q = some ⟨gx, 0, none⟩ := by cases hqx; rfl
                have HX := hide hx
                clear hx hqx HCD
                obtain ⟨u, hu⟩ : ∃ u, u = Ld.number p.names nm := ⟨_, rfl⟩
                have hlo := Ld.number_lt p.names nm
                rw [← HN.out] at hlo
                rw [← hu] at HNU hlo
                have HU := hide hu
                have HKA : Hid (∀ j : Nat, u = (j : Int) → ∃ y, p.names[j]? = some y ∧ Ld.kindAt p.names u = y.kind) := fun j hj => by
                  have hjl : j < p.names.length := by rw [← HN.out]; omega
                  refine ⟨p.names[j], List.getElem?_eq_getElem hjl, ?_⟩
                  unfold Ld.kindAt
                  rw [hj, Int.toNat_natCast, List.getElem?_eq_getElem hjl]
                clear hu
                go_wp2_with fail
                refine HNU.out.mono ?_
                rintro e w2 ⟨rfl, hb2⟩
                have HB2 := hide hb2
                have HR2 := hide (HRN.out.below hb2)
                have lN := World.block_lt_of_cell? _ _ n0
                have m0 := (hb2.cell (p := ⟨wr.heap.size, 0, none⟩) lN).trans n0
                have m2 := (hb2.cell (p := ⟨wr.heap.size, 2, none⟩) lN).trans n2
                have q0 : w2.cell? ⟨w.heap.size, 0, none⟩ = some (.slice na n nc) := Lib.cell_of_heap HR2.out.prg 0
                obtain ⟨d0, d1, g0, g1⟩ := HR2.out.box
                clear hb2 HNU c0 c1 f0 f1 n0 n1 n2 p0 p1
                by_cases hneg : u < 0
                · have HCK : Hid (Ld.check p = some (7, some (n + k))) := by
                    have hw : Ld.rungAt p k = 7 := by rw [HAT.out]; unfold Ld.wrongR; rw [if_neg (by dsimp only; omega)]; dsimp only; rw [if_pos (by rw [← HU.out]; exact hneg)]
                    have h1 := HHIT.out (by rw [hw]; decide)
                    rw [hw] at h1
                    exact h1
                  have HPUT := hide (HR2.out.box.put 7 ((n : Int) + (k : Int)))
                  have HPB := hide (HR2.out.put 7 ((n : Int) + (k : Int)))
                  clear HKA
                  go_wp2_with fail
                  refine bodyPost_ret_by (v := faultV 7 ((n : Int) + (k : Int))) ?_ rfl ?_
                  · simp [results, Tryz.results113, go_sem, faultV, HPUT.out.1, HPUT.out.2]
                  · exact ⟨by rw [HCK.out]; rfl, HPB.out⟩
                · obtain ⟨j, rfl⟩ : ∃ j : Nat, u = (j : Int) := ⟨u.toNat, by omega⟩
                  obtain ⟨y, hy, hky⟩ := HKA.out j rfl
                  obtain ⟨gn, hgn, hcn, y1, y2, y3, _⟩ := (HNA.out.below HR2.out.bel).at_ hy
                  subst hgn
                  have HKY := hide hky
                  have hji : (j : Int) < (n : Int) := by omega
                  obtain ⟨ynm, yk, yc⟩ := y
                  dsimp only at y1 y2 y3 HKY
                  clear hy hky y1 y3 HKA
                  have lw : w.heap.size < w2.heap.size := World.block_lt_of_cell? _ _ q0
                  have lr : wr.heap.size < w2.heap.size := World.block_lt_of_cell? _ _ m0
                  have lg : gn < w2.heap.size := World.block_lt_of_cell? _ _ y2
                  go_upto_region 24 with fail
                  go_cut [116] (fun t wx => t = .bool (Ld.kindOf kd != yk) ∧ Below w2.heap.size w2 wx)
                  case first =>
                    have HBA : Hid (∀ o, Below w2.heap.size w2 (w2.alloc o).drew) := fun o => below_drew1 ((Below.refl _ _).alloc (Nat.le_refl _) _)
                    have h6 : kd = 1 ∨ kd = 2 ∨ kd = 3 ∨ kd = 4 ∨ kd = 5 ∨ kd = 6 := by omega
                    rcases h6 with rfl | rfl | rfl | rfl | rfl | rfl
                    all_goals
                      go_region
                      go_wp2_with fail
                      go_meet
                      exact ⟨rfl, HBA.out _⟩
                  case rest =>
                    obtain ⟨rfl, hbc⟩ := hcut
                    have HRC3 := hide (HR2.out.below hbc)
                    have r2 := (hbc.cell (p := ⟨wr.heap.size, 2, none⟩) lr).trans m2
                    have HX3 := hide (IsRx.stay (Stay.below (HB2.out.trans (hbc.mono HB2.out.size))) (fun _ h => h) x gx HX.out)
                    obtain ⟨c0, c1, f0, f1⟩ := HRC3.out.box
                    obtain ⟨ml, hml⟩ := (HL.out.below HRC3.out.bel).len
                    have HNM := hide (RNames_any _ x gx ml _ HX3.out hxs (World.block_lt_of_cell? _ _ hml) hml)
                    clear hbc m0 m2 q0 y2 hml d0 d1 g0 g1
                    cases hkk : (Ld.kindOf kd != yk) with
                    | true =>
                      have HCK : Hid (Ld.check p = some (1, some (n + k))) := by
                        have hw : Ld.rungAt p k = 1 := by rw [HAT.out]; unfold Ld.wrongR; rw [if_neg (by dsimp only; omega)]; dsimp only; rw [if_neg (by rw [← HU.out]; omega), if_pos (by rw [← HU.out, HKY.out]; simp at hkk; exact fun e => hkk e.symm)]
                        have h1 := HHIT.out (by rw [hw]; decide)
                        rw [hw] at h1
                        exact h1
                      have HPUT := hide (HRC3.out.box.put 1 ((n : Int) + (k : Int)))
                      have HPB := hide (HRC3.out.put 1 ((n : Int) + (k : Int)))
                      clear hkk HNM
                      go_wp2_with fail
                      refine bodyPost_ret_by (v := faultV 1 ((n : Int) + (k : Int))) ?_ rfl ?_
                      · simp [results, Tryz.results113, go_sem, faultV, HPUT.out.1, HPUT.out.2]
                      · exact ⟨by rw [HCK.out]; rfl, HPB.out⟩
                    | false =>
                      have HKK : Hid (¬ Ld.kindAt p.names (j : Int) ≠ Ld.kindOf kd) := by
                        show ¬ (_ ≠ _)
                        rw [HKY.out]; simp at hkk; simp [hkk]
                      clear hkk
                      go_wp2_with fail
                      refine HNM.out.mono ?_
                      rintro e w3 ⟨sv, rfl, hss, hb3⟩
                      have HRC4 := hide (HRC3.out.below hb3)
                      have HSS := hide hss
                      obtain ⟨sa, sc, rfl, hsl, hsc⟩ := hss.at_
                      obtain ⟨L, hLL⟩ : ∃ L, L = (ordered (x.named true)).length := ⟨_, rfl⟩
                      have HLL := hide hLL
                      rw [← hLL] at hsc hsl ⊢
                      have HCE := hide hsc
                      clear hsc HSS
                      clear hb3 hss HNM hLL c0 c1 f0 f1 r2
                      go_wp2_with fail
                      obtain ⟨wo2, hwo2⟩ : ∃ wo2, wo2 = wr := ⟨_, rfl⟩
                      rw [← hwo2] at lr ⊢
                      clear hwo2
                      go_loopw [123] (fun i wr => ∃ z : Nat, z ≤ L ∧ i = .int .i64 (z : Int) ∧ Hid (∀ (j : Nat) s, j < z → (ordered (x.named true))[j]? = some s → 0 ≤ Ld.number p.names s) ∧ Hid (Below w3.heap.size w3 wr)) (fun i _ => L - (intOf i).toNat)
                      case atStart => exact ⟨0, Nat.zero_le _, rfl, fun j s hj => absurd hj (Nat.not_lt_zero j), Below.refl _ _⟩
                      case round =>
                        obtain ⟨z, hz, rfl, HAL, HB3⟩ := hrel
                        have HRC5 := hide (HRC4.out.below HB3.out)
                        by_cases hzL : z < L
                        · have hzl : z < (ordered (x.named true)).length := by rw [← HLL.out]; exact hzL
                          obtain ⟨gs, os, hsa, hcp, cs⟩ := HCE.out z _ (List.getElem?_eq_getElem hzl)
                          subst hsa
                          have cs2 := (HB3.out.cell (World.block_lt_of_cell? _ _ cs)).trans cs
                          have HMEM := hide (List.getElem_mem hzl)
                          have HON3 : Hid (0 ≤ Ld.number p.names (ordered (x.named true))[z] → ∀ (j : Nat) s, j < z + 1 → (ordered (x.named true))[j]? = some s → 0 ≤ Ld.number p.names s) := fun h0 j s hj hs => by
                            by_cases e : j = z
                            · subst e; rw [List.getElem?_eq_getElem hzl] at hs; cases hs; exact h0
                            · exact HAL.out j s (by omega) hs
                          have HNU3 := hide (rNumber_any p.names _ (.slice (some ⟨g, 0, none⟩) m rc) (ordered (x.named true))[z] wr (HNA.out.below HRC5.out.bel) ⟨_, _, _, rfl⟩)
                          have q0 : wr.cell? ⟨w.heap.size, 0, none⟩ = some (.slice (some ⟨gn, 0, none⟩) n nc) := Lib.cell_of_heap HRC5.out.prg 0
                          have q1 : wr.cell? ⟨w.heap.size, 1, none⟩ = some (.slice (some ⟨g, 0, none⟩) m rc) := Lib.cell_of_heap HRC5.out.prg 1
                          have hzi : (z : Int) < (L : Int) := by omega
                          generalize (ordered (x.named true))[z] = s at *
                          clear cs hzl
                          go_wp2_with fail
                          refine HNU3.out.mono ?_
                          rintro e w4 ⟨rfl, hb4⟩
                          have HRC6 := hide (HRC5.out.below hb4)
                          have HB4 := hide (HB3.out.trans (hb4.mono HB3.out.size))
                          obtain ⟨c0, c1, f0, f1⟩ := HRC6.out.box
                          obtain ⟨b, hb⟩ : ∃ b, b = Ld.number p.names s := ⟨_, rfl⟩
                          have HBE := hide hb
                          rw [← hb] at HON3 ⊢
                          clear hb hb4 HNU3 q0 q1 cs2
                          by_cases hb0 : b < 0
                          · have HCK : Hid (Ld.check p = some (7, some (n + k))) := by
                              have hw : Ld.rungAt p k = 7 := by rw [HAT.out]; unfold Ld.wrongR; rw [if_neg (by dsimp only; omega)]; dsimp only; rw [if_neg (by rw [← HU.out]; omega), if_neg (by rw [← HU.out]; exact HKK.out), if_neg (by rw [known_ordered, List.all_eq_true]; intro hall; have h2 := of_decide_eq_true (hall s HMEM.out); rw [← HBE.out] at h2; omega)]
                              have h1 := HHIT.out (by rw [hw]; decide)
                              rw [hw] at h1
                              exact h1
                            have HPUT := hide (HRC6.out.box.put 7 ((n : Int) + (k : Int)))
                            have HPB := hide (HRC6.out.put 7 ((n : Int) + (k : Int)))
                            go_wp2_with fail
                            refine bodyPost_ret_by (v := faultV 7 ((n : Int) + (k : Int))) ?_ rfl ?_
                            · simp [results, Tryz.results113, go_sem, faultV, HPUT.out.1, HPUT.out.2]
                            · exact ⟨by rw [HCK.out]; rfl, HPB.out⟩
                          · have HF := hide (HON3.out (by omega))
                            go_wp2_with fail
                            exact ⟨⟨z + 1, by omega, by go_num, HF.out, HB4.out⟩, by simp [intOf]; omega⟩
                        · have HZ : Hid (Ld.rungAt p k = 0) := by
                            show _ = _
                            rw [HAT.out]
                            unfold Ld.wrongR; rw [if_neg (by dsimp only; omega)]; dsimp only; rw [if_neg (by rw [← HU.out]; omega), if_neg (by rw [← HU.out]; exact HKK.out), if_pos (by rw [known_ordered, List.all_eq_true]; intro s hs; obtain ⟨j, hj, e⟩ := List.getElem_of_mem hs; exact decide_eq_true (HAL.out j s (by rw [← HLL.out] at hj; omega) (by rw [List.getElem?_eq_getElem hj, e])))]
                          have hzz : z = L := by omega
                          subst hzz
                          go_wp2_with fail
                          exact ⟨⟨k + 1, by omega, by go_num, HON.out HZ.out, HRC5.out⟩, by simp [intOf]; omega⟩
            · have hb16 : (decide (1 ≤ kd) && decide (kd ≤ 6)) = false := by
                rw [Bool.and_eq_false_iff, decide_eq_false_iff_not, decide_eq_false_iff_not]
                omega
              have HCK : Hid (Ld.check p = some (1, some (n + k))) := by
                have hw : Ld.rungAt p k = 1 := by rw [HAT.out]; unfold Ld.wrongR; rw [if_pos (by dsimp only; omega)]
                have h1 := HHIT.out (by rw [hw]; decide)
                rw [hw] at h1
                exact h1
              have HPUT := hide (HRN.out.box.put 1 ((n : Int) + (k : Int)))
              have HPB := hide (HRN.out.put 1 ((n : Int) + (k : Int)))
              rw [hb16]
              clear hk16 hb16
              go_wp2_with fail
              refine bodyPost_ret_by (v := faultV 1 ((n : Int) + (k : Int))) ?_ rfl ?_
              · simp [results, Tryz.results113, go_sem, faultV, HPUT.out.1, HPUT.out.2]
              · exact ⟨by rw [HCK.out]; rfl, HPB.out⟩
          · have hkm : k = m := by omega
            subst hkm
            have HCK := hide (HOK2.out HBN.out HBD.out)
            have HPUT := hide (HRC.out.box.put 0 (-1))
            have HPB := hide (HRC.out.put 0 (-1))
            obtain ⟨c0, c1, f0, f1⟩ := HRC.out.box
            obtain ⟨hf0, hf1⟩ := (HL.out.below HRC.out.bel).fine
            go_wp2_with fail
            refine bodyPost_ret_by (v := faultV 0 (-1)) ?_ rfl ?_
            · simp [results, Tryz.results113, go_sem, faultV, HPUT.out.1, HPUT.out.2]
            · exact ⟨by rw [HCK.out]; rfl, HPB.out⟩
end
section
open Go.RowKit
theorem own_block {W W' : World} {q : Nat} {e : TypeId} {s : Nat} {v : Value} {n : Nat} {xs : List Value} (h : W.ownsRow q e s v n xs) (hk : ∀ k, v.ownBlock = some k → W'.heap[k]? = W.heap[k]?) : W'.ownsRow q e s v n xs := by
  refine ⟨h.1, ?_⟩
  rcases h.2 with h1 | ⟨g, cap, cur, h1, h2, h3, h4⟩
  · exact .inl h1
  · exact .inr ⟨g, cap, cur, h1, h2, (hk g (by rw [h1]; rfl)).trans h3, h4⟩
/-- which blocks an expression's rows may lie in -/
def okY (q : Nat) (nv rv pv gv : Value) (g : Nat) : Prop := q ≤ g ∧ some g ≠ nv.ownBlock ∧ some g ≠ rv.ownBlock ∧ some g ≠ pv.ownBlock ∧ some g ≠ gv.ownBlock
/-- in block b lies what was read: its rows lie from block q on; all below b stands as in w0 -/
structure RdY (b q : Nat) (w0 : World) (ns : List Ld.Nme) (rs : List Ld.Rng) (ps gs : List Nat) (nv rv pv gv : Value) (vs : List Value) (W : World) : Prop where
  blk : W.heap[b]? = some (.cells #[nv, rv] 45 (0, 0))
  on : W.ownsRow q 144 3 nv ns.length (ns.flatMap nmCells)
  org : W.ownsRow q 195 3 rv rs.length ((rs.zip vs).flatMap rgCells)
  op : W.ownsRow q 3 1 pv ps.length (ps.map intV)
  og : W.ownsRow q 3 1 gv gs.length (gs.map intV)
  ap : ∀ k, pv.ownBlock = some k → gv.ownBlock = some k → False
  gnil : gs = [] → gv = .slice none 0 0
  len : vs.length = rs.length
  ex : ∀ (i : Nat) (g : Ld.Rng) (v : Value), rs[i]? = some g → vs[i]? = some v → ∃ x l p, g.cond = some x ∧ Ex.parse l = .inr x ∧ v = .pointer (some ⟨p, 0, none⟩) ∧ IsRx (okY q nv rv pv gv) W x p
  bn : ∀ n, n ∈ ns → n.name.length ≤ 20000 ∧ I64 n.kind ∧ I64 n.count
  br : ∀ g, g ∈ rs → g.name.length ≤ 20000 ∧ I64 g.kind
  lo : Below b w0 W
theorem RdY.lt {b q : Nat} {w0 : World} {ns : List Ld.Nme} {rs : List Ld.Rng} {ps gs : List Nat} {nv rv pv gv : Value} {vs : List Value} {W : World} (h : RdY b q w0 ns rs ps gs nv rv pv gv vs W) : b < W.heap.size := (Array.getElem?_eq_some_iff.1 h.blk).1
theorem RdY.below {b q : Nat} {w0 : World} {ns : List Ld.Nme} {rs : List Ld.Rng} {ps gs : List Nat} {nv rv pv gv : Value} {vs : List Value} {W W' : World} (h : RdY b q w0 ns rs ps gs nv rv pv gv vs W) (hb : Below W.heap.size W W') : RdY b q w0 ns rs ps gs nv rv pv gv vs W' :=
  ⟨(hb.block _ h.lt).trans h.blk, own_below h.on hb, own_below h.org hb, own_below h.op hb, own_below h.og hb, h.ap, h.gnil, h.len, fun i g v h1 h2 => by
    obtain ⟨x, l, p, e1, e2, e3, e4⟩ := h.ex i g v h1 h2
    exact ⟨x, l, p, e1, e2, e3, IsRx.stay (Stay.below hb) (fun _ h => h) x p e4⟩, h.bn, h.br, h.lo.trans (hb.mono (Nat.le_of_lt h.lt))⟩
/-- two rows grew, and a slice was stored in block b: all else stands -/
structure Turn (b : Nat) (W F : World) (u v : Value) : Prop where
  os : F.os = W.os
  tape : F.tape = W.tape
  output : F.output = W.output
  size : W.heap.size ≤ F.heap.size
  block : ∀ k, k < W.heap.size → k ≠ b → some k ≠ u.ownBlock → some k ≠ v.ownBlock → F.heap[k]? = W.heap[k]?
theorem Turn.of {b i : Nat} {W W1 W2 : World} {u v x : Value} (o1 o2 : Obj) (g1 : (W.alloc o1).grownBy W1 u.ownBlock) (g2 : (W1.alloc o2).grownBy W2 v.ownBlock) : Turn b W (W2.setCell ⟨b, i, none⟩ x) u v := by
  have z1 := g1.size
  have z2 := g2.size
  rw [World.size_alloc] at z1 z2
  refine ⟨g2.os.trans g1.os, g2.tape.trans g1.tape, g2.output.trans g1.output, by simp [World.setCell]; omega, fun k hk hb hu hv => ?_⟩
  rw [Below.heap_setCell _ _ _ _ (fun e => hb e), g2.block k (by rw [World.size_alloc]; omega) hv, Below.heap_alloc _ _ _ (by omega), g1.block k (by rw [World.size_alloc]; omega) hu, Below.heap_alloc _ _ _ hk]
theorem Turn.below {b : Nat} {w0 W F : World} {u v : Value} (h : Turn b W F u v) (hlo : Below b w0 W) (hbl : b < W.heap.size) (hu : ∀ k, u.ownBlock = some k → b < k) (hv : ∀ k, v.ownBlock = some k → b < k) : Below b w0 F :=
  hlo.trans ⟨h.os, h.tape, h.output, h.size, fun k hk => h.block k (by omega) (by omega) (fun e => by have := hu k e.symm; omega) (fun e => by have := hv k e.symm; omega)⟩
theorem own_new_block {W : World} {q : Nat} {e : TypeId} {s g cap m : Nat} {xs : List Value} (h : W.ownsRow q e s (.slice (some ⟨g, 0, none⟩) m cap) m xs) : ∃ c, W.heap[g]? = some (.cells c e (0, 0)) := own_tag h g rfl
/-- a name more, and its place -/
theorem RdY.name {b q : Nat} {w0 : World} {ns : List Ld.Nme} {rs : List Ld.Rng} {ps : List Nat} {nv rv pv gv : Value} {vs : List Value} {W W1 W2 : World} (h : RdY b q w0 ns rs ps [] nv rv pv gv vs W) (hbq : b < q) (hq : q ≤ W.heap.size) (n : Ld.Nme) (hn : n.name.length ≤ 20000 ∧ I64 n.kind ∧ I64 n.count) (st g cap g' cap' : Nat) (o1 o2 : Obj)
    (h1 : W1.ownsRow q 144 3 (.slice (some ⟨g, 0, none⟩) (ns.length + 1) cap) (ns.length + 1) (ns.flatMap nmCells ++ nmCells n)) (g1 : (W.alloc o1).grownBy W1 nv.ownBlock) (a1 : nv.ownBlock = some g ∨ g = W.heap.size + 1)
    (h2 : W2.ownsRow q 3 1 (.slice (some ⟨g', 0, none⟩) (ps.length + 1) cap') (ps.length + 1) (ps.map intV ++ [intV st])) (g2 : (W1.alloc o2).grownBy W2 pv.ownBlock) (a2 : pv.ownBlock = some g' ∨ g' = W1.heap.size + 1) :
    RdY b q w0 (ns ++ [n]) rs (ps ++ [st]) [] (.slice (some ⟨g, 0, none⟩) (ns.length + 1) cap) rv (.slice (some ⟨g', 0, none⟩) (ps.length + 1) cap') gv vs (W2.setCell ⟨b, 0, none⟩ (.slice (some ⟨g, 0, none⟩) (ns.length + 1) cap)) := by
  have hT : Turn b W (W2.setCell ⟨b, 0, none⟩ (.slice (some ⟨g, 0, none⟩) (ns.length + 1) cap)) nv pv := Turn.of o1 o2 g1 g2
  have hlt := h.lt
  have z1 := g1.size
  have z2 := g2.size
  rw [World.size_alloc] at z1 z2
  have hnq : ∀ k, nv.ownBlock = some k → q ≤ k := fun k e => (h.on.lt k e).1
  have hpq : ∀ k, pv.ownBlock = some k → q ≤ k := fun k e => (h.op.lt k e).1
  have hgq : q ≤ g := by rcases a1 with e | e; exact hnq g e; omega
  have hgq' : q ≤ g' := by rcases a2 with e | e; exact hpq g' e; omega
  obtain rfl := h.gnil rfl
  have hp1 : W1.ownsRow q 3 1 pv ps.length (ps.map intV) := (h.op.alloc o1).kept g1 (own_apart (h.op.alloc o1) (h.on.alloc o1) (by decide))
  have hb2 : W2.heap[b]? = some (.cells #[nv, rv] 45 (0, 0)) := by
    rw [g2.block b (by rw [World.size_alloc]; omega) (fun e => by have := hpq b e.symm; omega), Below.heap_alloc _ _ _ (by omega), g1.block b (by rw [World.size_alloc]; omega) (fun e => by have := hnq b e.symm; omega), Below.heap_alloc _ _ _ hlt]
    exact h.blk
  have hset : ∀ k, q ≤ k → (W2.setCell ⟨b, 0, none⟩ (.slice (some ⟨g, 0, none⟩) (ns.length + 1) cap)).heap[k]? = W2.heap[k]? := fun k hk => Below.heap_setCell _ _ _ _ (fun e => by have e2 : k = b := e; omega)
  refine ⟨?_, ?_, ?_, ?_, World.ownsRow_nil _ _ _ _, (fun k _ e => by cases e), (fun _ => rfl), h.len, ?_, ?_, h.br, hT.below h.lo hlt (fun k e => by have := hnq k e; omega) (fun k e => by have := hpq k e; omega)⟩
  · simp [World.setCell, Array.getElem?_modify, hb2]
  · have e1 : (ns ++ [n]).length = ns.length + 1 := by simp
    have e2 : (ns ++ [n]).flatMap nmCells = ns.flatMap nmCells ++ nmCells n := by simp
    rw [e1, e2]
    have h3 : W2.ownsRow q 144 3 (.slice (some ⟨g, 0, none⟩) (ns.length + 1) cap) (ns.length + 1) (ns.flatMap nmCells ++ nmCells n) := (h1.alloc o2).kept g2 (own_apart (h1.alloc o2) (hp1.alloc o2) (by decide))
    exact own_block h3 (fun k e => hset k (by simp only [Value.ownBlock, Option.some.injEq] at e; omega))
  · refine own_block h.org (fun k e => hT.block k (h.org.lt k e).2 (by have := (h.org.lt k e).1; omega) ?_ ?_)
    · rcases own_apart h.org h.on (by decide) with e2 | e2
      · rw [e2] at e; cases e
      · rw [e] at e2; exact e2
    · rcases own_apart h.org h.op (by decide) with e2 | e2
      · rw [e2] at e; cases e
      · rw [e] at e2; exact e2
  · have e1 : (ps ++ [st]).length = ps.length + 1 := by simp
    have e2 : (ps ++ [st]).map intV = ps.map intV ++ [intV st] := by simp
    rw [e1, e2]
    exact own_block h2 (fun k e => hset k (by simp only [Value.ownBlock, Option.some.injEq] at e; omega))
  · intro i gr v e1 e2
    obtain ⟨x, l, p, e3, e4, e5, e6⟩ := h.ex i gr v e1 e2
    refine ⟨x, l, p, e3, e4, e5, IsRx.stay (ok := fun k => okY q nv rv pv (.slice none 0 0) k ∧ k < W.heap.size) (w := W) ?_ ?_ x p (IsRx.lt x p e6)⟩
    · intro k j u hk hc
      rw [World.cell?_of_block (hT.block k hk.2 (by have := hk.1.1; omega) hk.1.2.1 hk.1.2.2.2.1)]
      exact hc
    · intro k hk
      refine ⟨hk.1.1, ?_, hk.1.2.2.1, ?_, (fun e => by cases e)⟩
      · intro e
        simp only [Value.ownBlock, Option.some.injEq] at e
        subst e
        rcases a1 with a | a
        · exact hk.1.2.1 a.symm
        · have := hk.2; omega
      · intro e
        simp only [Value.ownBlock, Option.some.injEq] at e
        subst e
        rcases a2 with a | a
        · exact hk.1.2.2.2.1 a.symm
        · have := hk.2; omega
  · intro m hm
    rw [List.mem_append] at hm
    rcases hm with hm | hm
    · exact h.bn m hm
    · simp at hm; subst hm; exact hn
/-- a rung more, and its place -/
theorem RdY.rung {b q : Nat} {w0 : World} {ns : List Ld.Nme} {rs : List Ld.Rng} {ps gs : List Nat} {nv rv pv gv : Value} {vs : List Value} {W W1 W2 : World} (h : RdY b q w0 ns rs ps gs nv rv pv gv vs W) (hbq : b < q) (hq : q ≤ W.heap.size) (k0 : Int) (nm : List UInt8) (x0 : Ex) (p0 : Nat) (l0 : List UInt8) (hk0 : nm.length ≤ 20000 ∧ I64 k0) (hp0 : Ex.parse l0 = .inr x0) (hx0 : IsRx (okY q nv rv pv gv) W x0 p0) (st g cap g' cap' : Nat) (o1 o2 : Obj)
    (h1 : W1.ownsRow q 195 3 (.slice (some ⟨g, 0, none⟩) (rs.length + 1) cap) (rs.length + 1) ((rs.zip vs).flatMap rgCells ++ [.int .i64 k0, .string ⟨nm.toArray⟩, .pointer (some ⟨p0, 0, none⟩)])) (g1 : (W.alloc o1).grownBy W1 rv.ownBlock) (a1 : rv.ownBlock = some g ∨ g = W.heap.size + 1)
    (h2 : W2.ownsRow q 3 1 (.slice (some ⟨g', 0, none⟩) (gs.length + 1) cap') (gs.length + 1) (gs.map intV ++ [intV st])) (g2 : (W1.alloc o2).grownBy W2 gv.ownBlock) (a2 : gv.ownBlock = some g' ∨ g' = W1.heap.size + 1) :
    RdY b q w0 ns (rs ++ [⟨k0, nm, some x0⟩]) ps (gs ++ [st]) nv (.slice (some ⟨g, 0, none⟩) (rs.length + 1) cap) pv (.slice (some ⟨g', 0, none⟩) (gs.length + 1) cap') (vs ++ [.pointer (some ⟨p0, 0, none⟩)]) (W2.setCell ⟨b, 1, none⟩ (.slice (some ⟨g, 0, none⟩) (rs.length + 1) cap)) := by
  have hT : Turn b W (W2.setCell ⟨b, 1, none⟩ (.slice (some ⟨g, 0, none⟩) (rs.length + 1) cap)) rv gv := Turn.of o1 o2 g1 g2
  have hlt := h.lt
  have z1 := g1.size
  have z2 := g2.size
  rw [World.size_alloc] at z1 z2
  have hnq : ∀ k, rv.ownBlock = some k → q ≤ k := fun k e => (h.org.lt k e).1
  have hpq : ∀ k, gv.ownBlock = some k → q ≤ k := fun k e => (h.og.lt k e).1
  have hgq : q ≤ g := by rcases a1 with e | e; exact hnq g e; omega
  have hgq' : q ≤ g' := by rcases a2 with e | e; exact hpq g' e; omega
  have hp1 : W1.ownsRow q 3 1 gv gs.length (gs.map intV) := (h.og.alloc o1).kept g1 (own_apart (h.og.alloc o1) (h.org.alloc o1) (by decide))
  have hb2 : W2.heap[b]? = some (.cells #[nv, rv] 45 (0, 0)) := by
    rw [g2.block b (by rw [World.size_alloc]; omega) (fun e => by have := hpq b e.symm; omega), Below.heap_alloc _ _ _ (by omega), g1.block b (by rw [World.size_alloc]; omega) (fun e => by have := hnq b e.symm; omega), Below.heap_alloc _ _ _ hlt]
    exact h.blk
  have hset : ∀ k, q ≤ k → (W2.setCell ⟨b, 1, none⟩ (.slice (some ⟨g, 0, none⟩) (rs.length + 1) cap)).heap[k]? = W2.heap[k]? := fun k hk => Below.heap_setCell _ _ _ _ (fun e => by have e2 : k = b := e; omega)
  have hex : ∀ (x : Ex) (p : Nat), IsRx (okY q nv rv pv gv) W x p → IsRx (okY q nv (.slice (some ⟨g, 0, none⟩) (rs.length + 1) cap) pv (.slice (some ⟨g', 0, none⟩) (gs.length + 1) cap')) (W2.setCell ⟨b, 1, none⟩ (.slice (some ⟨g, 0, none⟩) (rs.length + 1) cap)) x p := fun x p e6 => by
    refine IsRx.stay (ok := fun k => okY q nv rv pv gv k ∧ k < W.heap.size) (w := W) ?_ ?_ x p (IsRx.lt x p e6)
    · intro k j u hk hc
      rw [World.cell?_of_block (hT.block k hk.2 (by have := hk.1.1; omega) hk.1.2.2.1 hk.1.2.2.2.2)]
      exact hc
    · intro k hk
      refine ⟨hk.1.1, hk.1.2.1, ?_, hk.1.2.2.2.1, ?_⟩
      · intro e
        simp only [Value.ownBlock, Option.some.injEq] at e
        subst e
        rcases a1 with a | a
        · exact hk.1.2.2.1 a.symm
        · have := hk.2; omega
      · intro e
        simp only [Value.ownBlock, Option.some.injEq] at e
        subst e
        rcases a2 with a | a
        · exact hk.1.2.2.2.2 a.symm
        · have := hk.2; omega
  refine ⟨?_, ?_, ?_, ?_, ?_, ?_, (fun e => by simp at e), by simp [h.len], ?_, h.bn, ?_, hT.below h.lo hlt (fun k e => by have := hnq k e; omega) (fun k e => by have := hpq k e; omega)⟩
  · simp [World.setCell, Array.getElem?_modify, hb2]
  · refine own_block h.on (fun k e => hT.block k (h.on.lt k e).2 (by have := (h.on.lt k e).1; omega) ?_ ?_)
    · rcases own_apart h.on h.org (by decide) with e2 | e2
      · rw [e2] at e; cases e
      · rw [e] at e2; exact e2
    · rcases own_apart h.on h.og (by decide) with e2 | e2
      · rw [e2] at e; cases e
      · rw [e] at e2; exact e2
  · have e1 : (rs ++ [(⟨k0, nm, some x0⟩ : Ld.Rng)]).length = rs.length + 1 := by simp
    have e2 : ((rs ++ [(⟨k0, nm, some x0⟩ : Ld.Rng)]).zip (vs ++ [.pointer (some ⟨p0, 0, none⟩)])).flatMap rgCells = (rs.zip vs).flatMap rgCells ++ [.int .i64 k0, .string ⟨nm.toArray⟩, .pointer (some ⟨p0, 0, none⟩)] := by
      rw [List.zip_append h.len.symm]; simp [rgCells]
    rw [e1, e2]
    have h3 : W2.ownsRow q 195 3 (.slice (some ⟨g, 0, none⟩) (rs.length + 1) cap) (rs.length + 1) ((rs.zip vs).flatMap rgCells ++ [.int .i64 k0, .string ⟨nm.toArray⟩, .pointer (some ⟨p0, 0, none⟩)]) := (h1.alloc o2).kept g2 (own_apart (h1.alloc o2) (hp1.alloc o2) (by decide))
    exact own_block h3 (fun k e => hset k (by simp only [Value.ownBlock, Option.some.injEq] at e; omega))
  · refine own_block h.op (fun k e => hT.block k (h.op.lt k e).2 (by have := (h.op.lt k e).1; omega) ?_ (fun e2 => h.ap k e e2.symm))
    rcases own_apart h.op h.org (by decide) with e2 | e2
    · rw [e2] at e; cases e
    · rw [e] at e2; exact e2
  · have e1 : (gs ++ [st]).length = gs.length + 1 := by simp
    have e2 : (gs ++ [st]).map intV = gs.map intV ++ [intV st] := by simp
    rw [e1, e2]
    exact own_block h2 (fun k e => hset k (by simp only [Value.ownBlock, Option.some.injEq] at e; omega))
  · intro k e1 e2
    simp only [Value.ownBlock, Option.some.injEq] at e2
    subst e2
    rcases a2 with a | a
    · exact h.ap _ e1 a
    · have := (h.op.lt _ e1).2; omega
  · intro i gr v e1 e2
    by_cases hi : i < rs.length
    · rw [List.getElem?_append_left hi] at e1
      rw [List.getElem?_append_left (by rw [h.len]; exact hi)] at e2
      obtain ⟨x, l, p, e3, e4, e5, e6⟩ := h.ex i gr v e1 e2
      exact ⟨x, l, p, e3, e4, e5, hex x p e6⟩
    · rw [List.getElem?_append_right (by omega)] at e1
      rw [List.getElem?_append_right (by rw [h.len]; omega), h.len] at e2
      have hi0 : i - rs.length = 0 := by
        by_cases h : i - rs.length = 0
        · exact h
        · rw [List.getElem?_eq_none (by simp; omega)] at e1; cases e1
      rw [hi0] at e1 e2
      simp only [List.getElem?_cons_zero, Option.some.injEq] at e1 e2
      subst e1
      subst e2
      exact ⟨x0, l0, p0, rfl, hp0, rfl, hex x0 p0 hx0⟩
  · intro m hm
    rw [List.mem_append] at hm
    rcases hm with hm | hm
    · exact h.br m hm
    · simp at hm; subst hm; exact hk0
theorem RdY.prg {b q : Nat} {w0 : World} {ns : List Ld.Nme} {rs : List Ld.Rng} {ps gs : List Nat} {nv rv pv gv : Value} {vs : List Value} {W : World} (h : RdY b q w0 ns rs ps gs nv rv pv gv vs W) (hn : ns.length ≤ 1000000) (hr : rs.length ≤ 1000000) : IsRPrg W ⟨ns, rs⟩ (.agg #[nv, rv]) := by
  refine ⟨nv, rv, rfl, ?_, ?_⟩
  · rcases h.on.2 with ⟨rfl, h0⟩ | ⟨g, cap, cur, rfl, _, hcur, hcap, _, _, htk⟩
    · exact .inl ⟨List.length_eq_zero_iff.1 h0, _, _, rfl⟩
    · refine .inr ⟨g, cap, rfl, hcap, hn, ?_⟩
      intro i n hi
      have hc := fun j hj => flat3 nmCells (fun _ => rfl) ns i n hi j hj
      have hb := h.bn n (List.mem_of_getElem? hi)
      exact ⟨row_cell hcur htk (hc 0 (by omega)), row_cell hcur htk (hc 1 (by omega)), row_cell hcur htk (hc 2 (by omega)), by unfold maxLen; omega, hb.2⟩
  · rcases h.org.2 with ⟨rfl, h0⟩ | ⟨g, cap, cur, rfl, _, hcur, hcap, _, _, htk⟩
    · exact .inl ⟨List.length_eq_zero_iff.1 h0, _, _, rfl⟩
    · refine .inr ⟨g, cap, rfl, hcap, hr, ?_⟩
      intro i gr hi
      have hil : i < rs.length := (List.getElem?_eq_some_iff.1 hi).1
      have hvi : vs[i]? = some (vs[i]'(by rw [h.len]; exact hil)) := List.getElem?_eq_getElem _
      generalize vs[i]'(by rw [h.len]; exact hil) = v at hvi
      have hz : (rs.zip vs)[i]? = some (gr, v) := by rw [List.getElem?_zip_eq_some]; exact ⟨hi, hvi⟩
      have hc := fun j hj => flat3 rgCells (fun _ => rfl) (rs.zip vs) i (gr, v) hz j hj
      have hb := h.br gr (List.mem_of_getElem? hi)
      obtain ⟨x, l, p, e1, e2, e3, e4⟩ := h.ex i gr v hi hvi
      have hbd := Ex.parse_bnd l x e2
      refine ⟨v, row_cell hcur htk (hc 0 (by omega)), row_cell hcur htk (hc 1 (by omega)), row_cell hcur htk (hc 2 (by omega)), by unfold maxLen; omega, hb.2, ?_⟩
      rw [e1]
      exact ⟨p, e3, IsRx.stay (fun _ _ _ _ hc => hc) (fun _ _ => trivial) x p e4, by omega, by omega⟩
end
section
namespace Ld
theorem splitK_one (c : UInt8) : ∀ (s : List UInt8) (k : Nat), s.count c = k → Lib.splitK [c] 0 k s = split c s
  | [], k, h => by
    have : k = 0 := by simpa using h.symm
    subst this
    rfl
  | b :: l, k, h => by
    by_cases hb : b = c
    · subst hb
      rw [List.count_cons_self] at h
      subst h
      have hix : Lib.index (b :: l) [b] = 0 := by rw [Lib.index]; simp [List.isPrefixOf]
      rw [Lib.splitK, hix, if_neg (by decide)]
      show [] :: Lib.splitK [b] 0 (l.count b) l = _
      rw [splitK_one b l _ rfl, split, if_pos rfl]
    · have hcn : (b :: l).count c = l.count c := List.count_cons_of_ne (by simpa using hb)
      rw [hcn] at h
      have ih := splitK_one c l k h
      have hp : ([c] : List UInt8).isPrefixOf (b :: l) = false := by simp [List.isPrefixOf, Ne.symm hb]
      have hix : Lib.index (b :: l) [c] = if Lib.index l [c] == -1 then -1 else Lib.index l [c] + 1 := by rw [Lib.index, hp]; simp
      rw [split, if_neg hb, ← ih]
      cases k with
      | zero => rfl
      | succ k =>
        by_cases hm : Lib.index l [c] = -1
        · rw [Lib.splitK, hix, if_pos (beq_iff_eq.2 hm), if_pos (by decide), Lib.splitK, if_pos (beq_iff_eq.2 hm)]
        · have hge := Lib.index_ge l [c]
          obtain ⟨j, hj⟩ : ∃ j : Nat, Lib.index l [c] = j := ⟨(Lib.index l [c]).toNat, by omega⟩
          have hne : ¬ ((j : Int) == -1) = true := fun e => by have := beq_iff_eq.1 e; omega
          have hne2 : ¬ ((j : Int) + 1 == -1) = true := fun e => by have := beq_iff_eq.1 e; omega
          rw [Lib.splitK, hix, hj, if_neg hne, if_neg hne2, Lib.splitK, hj, if_neg hne]
          have e1 : ((j : Int) + 1).toNat = j + 1 := by omega
          rw [e1, Int.toNat_natCast]
          rfl
theorem splitB_one (c : UInt8) (s : ByteArray) : (Lib.splitB ⟨#[c]⟩ 0 (Lib.countB s ⟨#[c]⟩) s).map (·.data.toList) = split c s.data.toList := by
  rw [Lib.splitB_data]
  refine splitK_one c s.data.toList _ ?_
  rw [← Lib.count_one]
end Ld
end
end Go.Proofs.YtgldbliohpfljaaGreatDoor
