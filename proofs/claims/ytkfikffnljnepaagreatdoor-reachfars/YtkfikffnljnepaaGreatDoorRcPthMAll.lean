/-
  The walk of package reach's walk. The walk of package reach's Far. The law for 'for .. := range f' once more: the iterator may lean on what the body's own invariant says of the memory, and of what has been handed on ('Kf'); and what is handed on may be laid into new blocks ('lay') ahead of the body. slices.Backward over numbers that are still 0, as an iterator. Plain: a way gone back, and the row of its inputs as it is filled from its end.
-/
import Derived.Test.YtkfikffnljnepaaGreatDoorRcAheadAll
import Derived.Test.YtkfikffnljnepaaGreatDoorSpSeqAll
import Derived.Test.YtkfikffnljnepaaGreatDoorMcBackAll
namespace Go.Proofs.YtkfikffnljnepaaGreatDoor
section
open Go.RowKit
/-- what walk comes to -/
def Walked (w : World) (S : Nat) (next : Nat → List Nat) (e : Ending) (w' : World) : Prop := ∃ g, e = .returned (slV g S) ∧ RowIs w' g 66 ((Rc.walk next S).steps.flatMap stpCells) ∧ w.heap.size ≤ g ∧ Below w.heap.size w w'
theorem first_row (S : Nat) (k : Nat) (hk : k < S) : (List.replicate k (⟨-1, 0, 0⟩ : Rc.Stp) ++ List.replicate (S - k) Rc.st0).set k ⟨-1, 0, 0⟩ = List.replicate (k + 1) ⟨-1, 0, 0⟩ ++ List.replicate (S - (k + 1)) Rc.st0 := by
  have h := fill_set (List.replicate k (⟨-1, 0, 0⟩ : Rc.Stp)) Rc.st0 ⟨-1, 0, 0⟩ S (by simpa using hk)
  simp only [List.length_replicate, List.length_append, List.length_cons, List.length_nil] at h
  rw [List.replicate_succ']
  exact h
theorem first_at (S k : Nat) : (List.replicate k (⟨-1, 0, 0⟩ : Rc.Stp) ++ List.replicate (S - k) Rc.st0).getD k Rc.st0 = Rc.st0 := by
  rw [List.getD_eq_getElem?_getD, List.getElem?_append_right (by simp), List.getElem?_replicate]
  split <;> rfl
set_option maxHeartbeats 8000000 in
set_option maxRecDepth 100000 in
theorem walk_any (bm S I gN : Nat) (next : Nat → List Nat) (uN : List Nat) (w : World) (h : NextAt w bm S I next gN uN) (hS1 : 1 ≤ S) (hS : S ≤ 4096) (hI : I ≤ 64) (hnl : ∀ s, (next s).length = I) (hnx : ∀ f s, f < S → s ∈ next f → s < S) :
    Calls Tryz.prog 21 #[.pointer (some ⟨bm, 0, none⟩)] w (Walked w S next) := by
  obtain ⟨i0, hi0, hz0, hz1, hz2⟩ := info_parts Tryz.infoInt
  have HNA := hide h
  have HNL := hide hnl
  have HNX := hide hnx
  have mk := fun w => makeSteps S (by omega) w
  obtain ⟨c4, hul, _⟩ := h
  have hbm : bm < w.heap.size := World.block_lt_of_cell? _ _ c4
  obtain ⟨cS, hcS⟩ : ∃ c, c = (List.replicate S Rc.st0).flatMap stpCells := ⟨_, rfl⟩
  rw [← hcS] at mk
  obtain ⟨w1, hw1⟩ : ∃ w1, w1 = w.alloc (.cells ⟨cS⟩ 66) := ⟨_, rfl⟩
  have HR1 : Hid (RowIs w1 w.heap.size 66 ((List.replicate 0 (⟨-1, 0, 0⟩ : Rc.Stp) ++ List.replicate (S - 0) Rc.st0).flatMap stpCells)) := by
    show RowIs w1 w.heap.size 66 ((List.replicate S Rc.st0).flatMap stpCells)
    rw [hw1, ← hcS]; exact RowIs.new _ _ _
  have HB1 : Hid (Below w.heap.size w w1) := by rw [hw1]; exact (Below.refl _ _).alloc (Nat.le_refl _) _
  have hz1' : w1.heap.size = w.heap.size + 1 := by rw [hw1]; simp
  clear hcS hul hnl hnx
  go_enter Tryz.func21, Tryz.ntmps21
  go_wp2_with fail
  rw [← hw1]
  clear hw1
  go_loopw [18] (fun i wr => ∃ k : Nat, k ≤ S ∧ i = .int .i64 (k : Int) ∧ Hid (RowIs wr w.heap.size 66 ((List.replicate k (⟨-1, 0, 0⟩ : Rc.Stp) ++ List.replicate (S - k) Rc.st0).flatMap stpCells)) ∧ Hid (Below w.heap.size w wr)) (fun i _ => S - (intOf i).toNat)
  case atStart => exact ⟨0, Nat.zero_le _, rfl, HR1.out, HB1.out⟩
  case round =>
    obtain ⟨k, hk, rfl, HR, HB⟩ := hrel
    by_cases hlt : k < S
    · have hll : k < (List.replicate k (⟨-1, 0, 0⟩ : Rc.Stp) ++ List.replicate (S - k) Rc.st0).length := by simp; omega
      have r0 := (stp_cell HR.out k hll).1
      have f0 := HR.out.frozen (k * 3)
      have HRN : Hid (RowIs (wr.setCell ⟨w.heap.size, k * 3, none⟩ (.int .i64 (-1))) w.heap.size 66 ((List.replicate (k + 1) (⟨-1, 0, 0⟩ : Rc.Stp) ++ List.replicate (S - (k + 1)) Rc.st0).flatMap stpCells)) := by
        have h1 := HR.out.set (k * 3) (.int .i64 (-1))
        rw [stp_set1 _ _ k hll, first_at S k] at h1
        rw [← first_row S k hlt]; exact h1
      have HBN : Hid (Below w.heap.size w (wr.setCell ⟨w.heap.size, k * 3, none⟩ (.int .i64 (-1)))) := HB.out.setCell (p := ⟨w.heap.size, k * 3, none⟩) (Nat.le_refl _) _
      have hwl : w.heap.size < wr.heap.size := World.block_lt_of_cell? _ _ r0
      clear hll
      go_wp2_with fail
      go_roundw
      case rel => exact ⟨k + 1, by omega, by go_num, HRN.out, HBN.out⟩
      case measure => simp [intOf]; omega
    · have hkS : k = S := by omega
      subst hkS
      have hrow := HR.out
      rw [Nat.sub_self, List.replicate_zero, List.append_nil] at hrow
      have hll : 0 < (List.replicate k (⟨-1, 0, 0⟩ : Rc.Stp)).length := by simp; omega
      have r0 := (stp_cell hrow 0 hll).1
      have f0 := hrow.frozen (0 * 3)
      rw [Nat.zero_mul] at r0 f0
      obtain ⟨wq, rfl⟩ : ∃ wq, wq = wr := ⟨_, rfl⟩
      obtain ⟨w2, hw2⟩ : ∃ w2, w2 = (wq.setCell ⟨w.heap.size, 0, none⟩ (.int .i64 0)).alloc (.cells #[.int .i64 0] 3) := ⟨_, rfl⟩
      have HR2 : Hid (RowIs w2 w.heap.size 66 ((Rc.rounds next (Rc.begin k) 0).steps.flatMap stpCells)) := by
        have h1 := hrow.set (0 * 3) (.int .i64 0)
        rw [stp_set1 _ _ 0 hll] at h1
        have e : (List.replicate k (⟨-1, 0, 0⟩ : Rc.Stp)).getD 0 Rc.st0 = ⟨-1, 0, 0⟩ := by
          rw [List.getD_eq_getElem?_getD, List.getElem?_replicate, if_pos (by omega)]; rfl
        rw [e, Nat.zero_mul] at h1
        rw [hw2]
        exact h1.alloc _
      have hwq : w.heap.size < wq.heap.size := World.block_lt_of_cell? _ _ r0
      have HO2 : Hid (w2.ownsRow (w.heap.size + 1) 3 1 (.slice (some ⟨wq.heap.size, 0, none⟩) 1 1) 1 [.int .i64 0]) := by
        have h1 := own_one (wq.setCell ⟨w.heap.size, 0, none⟩ (.int .i64 0)) (w.heap.size + 1) 3 (.int .i64 0) (by simp [World.setCell]; omega)
        have hz : (wq.setCell ⟨w.heap.size, 0, none⟩ (.int .i64 0)).heap.size = wq.heap.size := by simp [World.setCell]
        rw [hz] at h1
        rw [hw2]; exact h1
      have HB2 : Hid (Below w.heap.size w w2) := by rw [hw2]; exact (HB.out.setCell (p := ⟨w.heap.size, 0, none⟩) (Nat.le_refl _) _).alloc (by simp [World.setCell]; omega) _
      have hk0 : ((k : Int) == 0) = false := by simp; omega
      clear hrow HR HB HR1 HB1 hll
      go_wp2_with fail
      rw [← hw2]
      clear hw2
      go_loopw [5, 6] (fun mv i wr => ∃ j : Nat, i = .int .i64 (j : Int) ∧ j ≤ (Rc.rounds next (Rc.begin k) j).met.length ∧ (∃ a c, mv = .slice a (Rc.rounds next (Rc.begin k) j).met.length c) ∧ Hid (wr.ownsRow (w.heap.size + 1) 3 1 mv (Rc.rounds next (Rc.begin k) j).met.length ((Rc.rounds next (Rc.begin k) j).met.map intV)) ∧ Hid (RowIs wr w.heap.size 66 ((Rc.rounds next (Rc.begin k) j).steps.flatMap stpCells)) ∧ Hid (Below w.heap.size w wr)) (fun _ i _ => k - (intOf i).toNat)
      case atStart => exact ⟨0, rfl, Nat.zero_le _, ⟨_, _, rfl⟩, HO2.out, HR2.out, HB2.out⟩
      case round =>
        obtain ⟨j, rfl, hjm, ⟨la, lc, rfl⟩, HO, HR, HB⟩ := hrel
        obtain ⟨q, hq⟩ : ∃ q, q = Rc.rounds next (Rc.begin k) j := ⟨_, rfl⟩
        have HQ := hide hq
        have HOK : Hid (Rc.Ok next k q j 0) := by rw [hq]; exact Rc.rounds_ok (Rc.begin_ok next k hS1) HNX.out j
        have hmany := HOK.out.many
        rw [← hq] at hjm HO HR ⊢
        clear hq HO2 HR2 HB2
        by_cases hlt : j < q.met.length
        · obtain ⟨f, hf⟩ : ∃ f, q.met[j]? = some f := ⟨_, List.getElem?_eq_getElem hlt⟩
          have HF := hide hf
          have hfk : f < k := HOK.out.lt f (List.mem_of_getElem? hf)
          obtain ⟨gm, hla, hcm, m0⟩ : ∃ g, la = some ⟨g, 0, none⟩ ∧ q.met.length ≤ lc ∧ wr.cell? ⟨g, j, none⟩ = some (intV f) := by
            rcases HO.out.2 with ⟨_, h0⟩ | ⟨g, cap, cur, h1, _, hcur, hcap, _, _, htk⟩
            · omega
            · simp only [Value.slice.injEq] at h1
              exact ⟨g, h1.1, by rw [h1.2.2]; exact hcap, row_cell hcur htk (by rw [List.getElem?_map, hf]; rfl)⟩
          subst hla
          unfold intV at m0
          have hna := HNA.out.below HB.out
          obtain ⟨bN, hbN⟩ : ∃ b, uN[f]? = some b := ⟨_, List.getElem?_eq_getElem (by rw [hna.2.1]; exact hfk)⟩
          have n0 := hna.1
          have n1 := (hna.2.2 f bN hbN).1
          have HBN := hide hbN
          clear hna hbN hf
          go_wp2_with fail
          go_loopw [5, 52] (fun mv i wr => ∃ t : Nat, t ≤ I ∧ i = .int .i64 (t : Int) ∧ (∃ a c, mv = .slice a (Rc.seesTo (next f) f q t).met.length c) ∧ Hid (wr.ownsRow (w.heap.size + 1) 3 1 mv (Rc.seesTo (next f) f q t).met.length ((Rc.seesTo (next f) f q t).met.map intV)) ∧ Hid (RowIs wr w.heap.size 66 ((Rc.seesTo (next f) f q t).steps.flatMap stpCells)) ∧ Hid (Below w.heap.size w wr)) (fun _ i _ => I - (intOf i).toNat)
          case atStart => exact ⟨0, Nat.zero_le _, rfl, ⟨_, _, rfl⟩, HO.out, HR.out, HB.out⟩
          case round =>
            obtain ⟨t, ht, rfl, ⟨la2, lc2, rfl⟩, HO, HR, HB⟩ := hrel
            obtain ⟨q2, hq2⟩ : ∃ q2, q2 = Rc.seesTo (next f) f q t := ⟨_, rfl⟩
            have HQ2 := hide hq2
            obtain ⟨hok2, hf2⟩ := Rc.seesTo_ok HOK.out HF.out (fun s hs => HNX.out f s hfk hs) t (by rw [HNL.out]; exact ht)
            rw [← hq2] at hok2 hf2 HO HR ⊢
            have HOK2 := hide hok2
            have HF2 := hide hf2
            have hmany2 := hok2.many
            clear hq2 hok2 hf2
            by_cases htI : t < I
            · have htl : t < (next f).length := by rw [HNL.out]; exact htI
              have hx := List.getElem?_eq_getElem htl
              have hxk : (next f)[t] < k := HNX.out f _ hfk (List.getElem_mem htl)
              have hna := HNA.out.below HB.out
              have n2 := (hna.2.2 f bN HBN.out).2 t _ hx
              have HNX2 : Hid (Rc.seesTo (next f) f q (t + 1) = Rc.see f q2 t (next f)[t]) := by
                show Rc.see f (Rc.seesTo (next f) f q t) t ((next f).getD t 0) = _
                rw [← HQ2.out]; simp [htl]
              generalize (next f)[t] = x at *
              have hxl : x < q2.steps.length := by rw [HOK2.out.len]; exact hxk
              have hfl : f < q2.steps.length := by rw [HOK2.out.len]; exact hfk
              have r0 := (stp_cell HR.out x hxl).1
              have r1 := (stp_cell HR.out f hfl).1
              have hwr : w.heap.size < wr.heap.size := World.block_lt_of_cell? _ _ r0
              have hfu := HOK2.out.up j f HF2.out
              have hfv := HOK2.out.vis f (List.mem_of_getElem? HF2.out)
              have hjm2 : j < q2.met.length := (List.getElem?_eq_some_iff.1 HF2.out).1
              have HBN2 := hide hbm
              clear hna hx
              by_cases hv : (q2.at_ x).far < 0
              · have HSE : Hid (Rc.see f q2 t x = ⟨q2.steps.set x ⟨(q2.at_ f).far + 1, f, t⟩, q2.met ++ [x]⟩) := by show _ = _; rw [Rc.see, if_pos hv]
                have f0 := HR.out.frozen (x * 3)
                have f1 := HR.out.frozen (x * 3 + 1)
                have f2 := HR.out.frozen (x * 3 + 2)
                obtain ⟨fr, hfr⟩ : ∃ fr, fr = (q2.at_ f).far := ⟨_, rfl⟩
                obtain ⟨xr, hxr⟩ : ∃ xr, xr = (q2.at_ x).far := ⟨_, rfl⟩
                change wr.cell? _ = some (.int .i64 (q2.at_ x).far) at r0
                change wr.cell? _ = some (.int .i64 (q2.at_ f).far) at r1
                rw [← hfr] at HSE r1 hfu hfv
                rw [← hxr] at r0 hv
                obtain ⟨c1, c2, c3⟩ : (wr.cell? ⟨w.heap.size, x * 3, none⟩).isSome ∧ (wr.cell? ⟨w.heap.size, x * 3 + 1, none⟩ = some (.int .i64 ((q2.at_ x).frm : Int))) ∧ (wr.cell? ⟨w.heap.size, x * 3 + 2, none⟩ = some (.int .i64 ((q2.at_ x).by_ : Int))) := ⟨by rw [r0]; rfl, (stp_cell HR.out x hxl).2.1, (stp_cell HR.out x hxl).2.2⟩
                clear hfr hxr
                have hgr : ∀ (A : World) (i : Nat) (v : Value), A.grownBy (A.setCell ⟨w.heap.size, i, none⟩ v) (some w.heap.size) := fun A i v => ⟨rfl, rfl, rfl, by simp [World.setCell], fun b _ hb => Below.heap_setCell _ _ _ _ (fun e => hb (congrArg some e))⟩
                have hne : (Value.slice la2 q2.met.length lc2).ownBlock = none ∨ (Value.slice la2 q2.met.length lc2).ownBlock ≠ some w.heap.size := by
                  cases ho : (Value.slice la2 q2.met.length lc2).ownBlock with
                  | none => exact .inl rfl
                  | some g => exact .inr (fun e => by cases e; have := (HO.out.lt _ ho).1; omega)
                obtain ⟨wS, hwS⟩ : ∃ wS, wS = ((wr.setCell ⟨w.heap.size, x * 3, none⟩ (.int .i64 (fr + 1))).setCell ⟨w.heap.size, x * 3 + 1, none⟩ (.int .i64 (f : Int))).setCell ⟨w.heap.size, x * 3 + 2, none⟩ (.int .i64 (t : Int)) := ⟨_, rfl⟩
                have hzS : wS.heap.size = wr.heap.size := by rw [hwS]; simp [World.setCell]
                have HOS : Hid (∀ o, (wS.alloc o).ownsRow (w.heap.size + 1) 3 1 (.slice la2 q2.met.length lc2) q2.met.length (q2.met.map intV)) := fun o => by
                  rw [hwS]
                  exact (((HO.out.kept (hgr _ _ _) hne).kept (hgr _ _ _) hne).kept (hgr _ _ _) hne).alloc o
                have HRS : Hid (RowIs wS w.heap.size 66 ((q2.steps.set x ⟨fr + 1, f, t⟩).flatMap stpCells)) := by
                  have h1 := ((HR.out.set (x * 3) (.int .i64 (fr + 1))).set (x * 3 + 1) (.int .i64 (f : Int))).set (x * 3 + 2) (.int .i64 (t : Int))
                  have h2 := stp_set3 ⟨fr + 1, f, t⟩ q2.steps x hxl
                  rw [hwS]
                  rw [← h2]; exact h1
                have HBS : Hid (Below w.heap.size w wS) := by
                  rw [hwS]
                  exact ((HB.out.setCell (p := ⟨w.heap.size, x * 3, none⟩) (Nat.le_refl _) _).setCell (p := ⟨w.heap.size, x * 3 + 1, none⟩) (Nat.le_refl _) _).setCell (p := ⟨w.heap.size, x * 3 + 2, none⟩) (Nat.le_refl _) _
                have HNW : Hid (∀ j u, [Value.int .i64 (x : Int)][j]? = some u → (wS.alloc (.cells #[.int .i64 (x : Int)] 3)).cell? ((⟨wr.heap.size, 0, none⟩ : Addr).add j) = some u) := by
                  rw [← hzS]
                  exact World.news_of_block (cs := #[.int .i64 (x : Int)]) (heap_alloc_new wS _)
                have HONE : Hid (∀ u ∈ [Value.int .i64 (x : Int)], u.oneCell' = true) := by
                  intro u hu
                  simp only [List.mem_cons, List.not_mem_nil, or_false] at hu
                  subst hu; rfl
                have HFIN : Hid (∀ (g cap : Nat) (wC : World), wC.ownsRow (w.heap.size + 1) 3 1 (.slice (some ⟨g, 0, none⟩) (q2.met.length + 1) cap) (q2.met.length + 1) (q2.met.map intV ++ [intV x]) → (wS.alloc (.cells #[.int .i64 (x : Int)] 3)).grownBy wC (Value.slice la2 q2.met.length lc2).ownBlock →
                    (wC.ownsRow (w.heap.size + 1) 3 1 (.slice (some ⟨g, 0, none⟩) (q2.met.length + 1) cap) (Rc.seesTo (next f) f q (t + 1)).met.length ((Rc.seesTo (next f) f q (t + 1)).met.map intV) ∧ (Rc.seesTo (next f) f q (t + 1)).met.length = q2.met.length + 1) ∧ RowIs wC w.heap.size 66 ((Rc.seesTo (next f) f q (t + 1)).steps.flatMap stpCells) ∧ Below w.heap.size w wC) := by
                  intro g cap wC hown hgrow
                  rw [HNX2.out, HSE.out]
                  refine ⟨⟨by simpa using hown, by simp⟩, ?_, ?_⟩
                  · have h1 := HRS.out.alloc (.cells #[.int .i64 (x : Int)] 3)
                    refine (hgrow.block _ h1.lt (fun e => ?_)).trans h1
                    have := (HO.out.lt _ e.symm).1
                    omega
                  · exact (HBS.out.alloc HBS.out.size _).grown hgrow (by simp; omega) (fun j e => by have := (HO.out.lt j e).1; omega)
                have hml : q2.met.length + 1 ≤ 100000 := by omega
                rw [hwS] at HOS HNW HFIN
                clear hgr hne hwS
                go_wp2_with (at_builtin; refine wpList_append_lies _ rfl (.tmp 85) (.tmp 87) 26 rfl (w.heap.size + 1) 3 i0 _ 1 8 Tryz.underlying26 hi0 hz0 hz1 hz2 rfl (by decide) (.slice la2 q2.met.length lc2) q2.met.length (q2.met.map intV) rfl (HOS.out _) ⟨wr.heap.size, 0, none⟩ 1 1 [.int .i64 (x : Int)] rfl rfl HNW.out HONE.out (by decide) (by unfold maxLen; omega) (by omega) (by simp [World.setCell]; omega) (wr.heap.size + 1) (by simp [World.setCell]) ?_; intro g2 cap2 wC hown hgrow hat hltg; obtain ⟨⟨hoC, hlC⟩, hrC, hbC⟩ := HFIN.out g2 cap2 wC hown hgrow; have HOC := hide hoC; have HLC := hide hlC; have HBC := hide hbC; have HRC := hide hrC; clear hoC hlC hbC hrC hown hgrow hat)
                go_roundw
                case rel => exact ⟨t + 1, by omega, by go_num, ⟨_, _, by rw [HLC.out]⟩, HOC.out, HRC.out, HBC.out⟩
                case measure => simp [intOf]; omega
              · have HSE : Hid (Rc.seesTo (next f) f q (t + 1) = q2) := by show _ = _; rw [HNX2.out, Rc.see, if_neg hv]
                change wr.cell? _ = some (.int .i64 (q2.at_ x).far) at r0
                obtain ⟨xr, hxr⟩ : ∃ xr, xr = (q2.at_ x).far := ⟨_, rfl⟩
                rw [← hxr] at r0 hv
                clear hxr r1
                go_wp2_with fail
                go_roundw
                case rel => exact ⟨t + 1, by omega, by go_num, ⟨_, _, by rw [HSE.out]⟩, by rw [HSE.out]; exact HO.out, by rw [HSE.out]; exact HR.out, HB.out⟩
                case measure => simp [intOf]; omega
            · have htI' : t = I := by omega
              subst htI'
              have HSE : Hid (Rc.rounds next (Rc.begin k) (j + 1) = q2) := by
                show _ = _
                rw [Rc.rounds, ← HQ.out, HF.out]
                show Rc.seesTo (next f) f q (next f).length = q2
                rw [HNL.out, HQ2.out]
              go_wp2_with fail
              go_roundw
              case rel => exact ⟨j + 1, by go_num, by rw [HSE.out]; have := (List.getElem?_eq_some_iff.1 HF2.out).1; omega, ⟨_, _, by rw [HSE.out]⟩, by rw [HSE.out]; exact HO.out, by rw [HSE.out]; exact HR.out, HB.out⟩
              case measure => simp [intOf]; omega
        · have hjl : j = q.met.length := by omega
          have HEND : Hid (Rc.walk next k = q) := by
            show Rc.rounds next (Rc.begin k) k = q
            have h1 := Rc.rounds_stay (next := next) (q := Rc.begin k) j (by rw [← HQ.out]; omega) (k - j)
            rw [show j + (k - j) = k by omega] at h1
            rw [h1, HQ.out]
          go_wp2_with fail
          go_ret
          exact ⟨w.heap.size, rfl, by rw [HEND.out]; exact HR.out, Nat.le_refl _, HB.out⟩
end
section
open Go.RowKit
def farV (x : Rc.Stp) : Value := .int .i64 x.far
/-- what Far comes to -/
def Fared (w : World) (S : Nat) (next : Nat → List Nat) (e : Ending) (w' : World) : Prop := ∃ g, e = .returned (.tuple #[slV g S, .nilIface]) ∧ RowIs w' g 3 ((Rc.walk next S).steps.map farV) ∧ w.heap.size ≤ g ∧ Below w.heap.size w w'
set_option maxHeartbeats 4000000 in
set_option maxRecDepth 100000 in
theorem Far_any (bm S I gN : Nat) (next : Nat → List Nat) (uN : List Nat) (w : World) (h : NextAt w bm S I next gN uN) (hS1 : 1 ≤ S) (hS : S ≤ 4096) (hI : I ≤ 64) (hnl : ∀ s, (next s).length = I) (hnx : ∀ f s, f < S → s ∈ next f → s < S) :
    Calls Tryz.prog 6 #[.pointer (some ⟨bm, 0, none⟩)] w (Fared w S next) := by
  have HW := hide (walk_any bm S I gN next uN w h hS1 hS hI hnl hnx)
  have pn := fun w a => ptrNe w a
  have mk := fun w => makeIs S (by omega) w
  have HLEN := hide (Rc.walk_far next S hS1 hnx).len
  obtain ⟨cS, hcS⟩ : ∃ c, c = List.replicate S (Value.int .i64 0) := ⟨_, rfl⟩
  rw [← hcS] at mk
  obtain ⟨q, hq⟩ : ∃ q, q = Rc.walk next S := ⟨_, rfl⟩
  have HQ := hide hq
  rw [← hq] at HLEN
  clear h hnl hnx hq
  go_enter Tryz.func6, Tryz.ntmps6
  go_wp2_with fail
  refine HW.out.mono ?_
  rintro e w1 ⟨g, rfl, hrow, hg, hb1⟩
  rw [← HQ.out] at hrow
  have HROW := hide hrow
  have HB1 := hide hb1
  have hgl := hrow.lt
  have hz1 := hb1.size
  clear hrow hb1 HW
  unfold slV
  obtain ⟨w2, hw2⟩ : ∃ w2, w2 = w1.alloc (.cells ⟨cS⟩ 3) := ⟨_, rfl⟩
  have hb2 : Below w1.heap.size w1 w2 := by rw [hw2]; exact (Below.refl _ _).alloc (Nat.le_refl _) _
  have HR2 : Hid (RowIs w2 w1.heap.size 3 ((q.steps.take 0).map farV ++ List.replicate (S - ((q.steps.take 0).map farV).length) (.int .i64 0))) := by
    show RowIs w2 w1.heap.size 3 (List.replicate S (.int .i64 0))
    rw [hw2, ← hcS]; exact RowIs.new _ _ _
  have HB2 := hide hb2
  clear hb2 hcS
  go_wp2_with fail
  rw [← hw2]
  clear hw2
  go_loopw [18] (fun i wr => ∃ k : Nat, k ≤ S ∧ i = .int .i64 (k : Int) ∧ Hid (RowIs wr w1.heap.size 3 ((q.steps.take k).map farV ++ List.replicate (S - ((q.steps.take k).map farV).length) (.int .i64 0))) ∧ Hid (Below w1.heap.size w1 wr)) (fun i _ => S - (intOf i).toNat)
  case atStart => exact ⟨0, Nat.zero_le _, rfl, HR2.out, HB2.out⟩
  case round =>
    obtain ⟨k, hk, rfl, HR, HB⟩ := hrel
    have hlk : ((q.steps.take k).map farV).length = k := by rw [List.length_map, List.length_take, HLEN.out]; omega
    by_cases hlt : k < S
    · have hkl : k < q.steps.length := by rw [HLEN.out]; exact hlt
      obtain ⟨r0, r1, r2⟩ := stp_cell (HROW.out.below HB.out) k hkl
      have c0 : wr.cell? ⟨w1.heap.size, k, none⟩ = some (.int .i64 0) := HR.out.cell k _ (by rw [List.getElem?_append_right (by omega), List.getElem?_replicate, if_pos (by omega)])
      have f0 := HR.out.frozen k
      have hgd : q.steps.getD k Rc.st0 = q.steps[k] := by simp [hkl]
      rw [hgd] at r0 r1 r2
      have hg2 : g < wr.heap.size := World.block_lt_of_cell? _ _ r0
      have hw1 : w1.heap.size < wr.heap.size := World.block_lt_of_cell? _ _ c0
      have HRN : Hid (RowIs (wr.setCell ⟨w1.heap.size, k, none⟩ (.int .i64 q.steps[k].far)) w1.heap.size 3 ((q.steps.take (k + 1)).map farV ++ List.replicate (S - ((q.steps.take (k + 1)).map farV).length) (.int .i64 0))) := by
        have h1 := HR.out.set k (.int .i64 q.steps[k].far)
        have h2 := fill_set ((q.steps.take k).map farV) (.int .i64 0) (.int .i64 q.steps[k].far) S (by omega)
        rw [hlk] at h2
        rw [hlk, h2] at h1
        rw [List.take_succ_eq_append_getElem hkl, List.map_append]
        exact h1
      have HBN : Hid (∀ o, Below w1.heap.size w1 ((wr.setCell ⟨w1.heap.size, k, none⟩ (.int .i64 q.steps[k].far)).alloc o)) := fun o => (HB.out.setCell (p := ⟨w1.heap.size, k, none⟩) (Nat.le_refl _) _).alloc (by simp [World.setCell]; omega) o
      generalize q.steps[k] = x at *
      obtain ⟨xf, xm, xb⟩ := x
      simp only at r0 r1 r2 HRN HBN
      clear hlk hgd
      go_wp2_with fail
      go_roundw
      case rel => exact ⟨k + 1, by omega, by go_num, HRN.out.alloc _, HBN.out _⟩
      case measure => simp [intOf]; omega
    · have hkS : k = S := by omega
      subst hkS
      have hrow := HR.out
      rw [hlk, Nat.sub_self, List.replicate_zero, List.append_nil, List.take_of_length_le (by rw [HLEN.out]; exact Nat.le_refl _)] at hrow
      have HRF := hide hrow
      clear hrow hlk
      go_wp2_with fail
      refine bodyPost_ret (results_tmp2 rfl _ _ _) rfl ?_
      exact ⟨w1.heap.size, rfl, by rw [← HQ.out]; exact HRF.out, hz1, HB1.out.trans (HB.out.mono HB1.out.size)⟩
end
section
open Go.RowKit
section
variable {α : Type} {P : Program}
/-- an iterator: it hands these on, one by one, and turns no blocks but its own, as long as Kf holds between two rounds -/
def SeqP (P : Program) (gf : Nat) (lb : Array Value) (encs : α → Array Value) (X : Nat → Nat → Prop) (m : Nat) (S Sp : List α → Prop) (Nx : List α → α → Prop) (Kf : List α → World → Prop) (w : World) : Prop :=
  ∀ (l : Nat) (J Jx : List α → World → Prop) (W : World), Below w.heap.size w W → AbidesX (X W.heap.size) J → AbidesX (X W.heap.size) Jx → (∀ pre W1, J pre W1 → Kf pre W1) →
    (∀ pre x W1, J pre W1 → Nx pre x → W.heap.size + m ≤ W1.heap.size → YieldAt Fence.wide 0 P l (encs x) W1 fun e W' =>
      (e = .returned (.bool true) ∧ J (pre ++ [x]) W' ∧ KeepX (X W.heap.size) W1 W') ∨ (e = .returned (.bool false) ∧ Jx (pre ++ [x]) W' ∧ KeepX (X W.heap.size) W1 W')) →
    J [] W →
    Calls P gf (#[.func (.yield l) #[] #[]] ++ lb) W fun e W' => (∃ v, e = .returned v) ∧ ((∃ xs, S xs ∧ J xs W') ∨ ∃ pre, Sp pre ∧ Jx pre W')
theorem range_lawP {g : Operand} {ps : Array Tmp} {assign body : Code} {Q : Exit → Act → World → Prop} {a : Act} {w : World} {n gf : Nat} {lb : Array Value} (hg : a.eval g = .func (.func gf) #[] lb) (eg : ∀ args w, (callFunc gf args).run P w = .ok (.enter gf args) w)
    {encs : α → Array Value} {X : Nat → Nat → Prop} {m : Nat} {Nx : List α → α → Prop} {S Sp : List α → Prop} {Kf : List α → World → Prop} (hseq : SeqP P gf lb encs X m S Sp Nx Kf w) (hX : ∀ k, X (w.heap.size + 2) k → k ≠ w.heap.size ∧ k ≠ w.heap.size + 1) (hXl : ∀ k, X (w.heap.size + 2) k → k < w.heap.size + 2 + m) (hps : ∀ x, (encs x).size = ps.size)
    (I Ix : List α → World → Prop) (hIK : ∀ pre W, I pre W → Kf pre W) (hI : AbidesX (TurnX X w.heap.size) I) (hIx : AbidesX (TurnX X w.heap.size) Ix) (h0 : I [] w) (lay : α → World → World) (hlay : ∀ x W, Below W.heap.size W (lay x W)) (a₁ : α → World → Act)
    (hassign : ∀ (l : Nat) (x : α) (W : World) (K : Act → World → Prop), K (a₁ x W) (lay x W) →
      assign.wpIn (Fence.wide.inRound l) 0 P (Exit.then K (fun _ _ _ => False)) { tmps := (ps.zip (encs x)).foldl (fun t (p, v) => t.setIfInBounds p v) a.tmps, defers := [] } W)
    (hbody : ∀ (l : Nat) (pre : List α) (x : α) (W U : World), w.heap.size + 2 + m ≤ W.heap.size → (∀ k, k ≠ w.heap.size + 1 → U.heap[k]? = (lay x W).heap[k]?) → U.heap.size = (lay x W).heap.size → I pre U → Nx pre x → body.wpIn (Fence.wide.inRound l) 0 P (BodyX (TurnX X w.heap.size) I Ix (pre ++ [x]) U) (a₁ x W) U)
    (hdone : ∀ (xs : List α) (W : World), S xs → I xs W → W.heap[w.heap.size]? = some (.deferred (some [])) → Q .normal { a with defers := { target := .collected w.heap.size, args := #[] } :: a.defers } W)
    (hstop : ∀ (pre : List α) (W : World), Sp pre → Ix pre W → W.heap[w.heap.size]? = some (.deferred (some [])) → Code.wpIn Fence.wide n P .ret Q { a with defers := { target := .collected w.heap.size, args := #[] } :: a.defers } W) :
    (Code.rangeFunc g ps assign body).wpIn Fence.wide n P Q a w := by
  refine wpIn_rangeFunc ?_
  intro fn hfn
  obtain ⟨rc, hrc⟩ : ∃ rc : LoopState → Option Code → Loop, rc = fun st pe => { state := st, pending := pe, fn, tmps := a.tmps, params := ps, assign, body, defers := w.heap.size } := ⟨_, rfl⟩
  obtain ⟨V, hV⟩ : ∃ V, V = (w.alloc (.deferred (some []))).alloc (.loop (rc .ready none)) := ⟨_, rfl⟩
  have hVs : V.heap.size = w.heap.size + 2 := by rw [hV]; simp
  have hVl : V.heap[w.heap.size + 1]? = some (.loop (rc .ready none)) := by
    have := World.alloc_heap_new (w.alloc (.deferred (some []))) (.loop (rc .ready none))
    rw [World.size_alloc] at this
    rw [hV]; exact this
  have hVd : V.heap[w.heap.size]? = some (.deferred (some [])) := by rw [hV]; exact (Below.heap_alloc _ _ _ (by simp)).trans (World.alloc_heap_new w _)
  have hVI : I [] V := by
    rw [hV]
    exact hI _ _ _ none (hI _ _ _ none h0 (World.grownBy_alloc _ _ none) (fun r e => by cases e)) (World.grownBy_alloc _ _ none) (fun r e => by cases e)
  have hVb : Below w.heap.size w V := by rw [hV]; exact ((Below.refl _ w).alloc (Nat.le_refl _) _).alloc (by simp) _
  refine ⟨w.heap.size + 1, [{ target := .collected w.heap.size, args := #[] }], V, { target := .fn (.func gf) lb, args := #[.func (.yield (w.heap.size + 1)) #[] #[]] }, V, gf, #[.func (.yield (w.heap.size + 1)) #[] #[]] ++ lb, V, ?_, ?_, fun _ _ => trivial, ?_, fun h => by simp [Fence.wide] at h, ?_⟩
  · rw [hV, hrc]; exact run_enterLoop_outer _ _ _ _ _
  · simp only [resolve, hg]
    simp [go_sem]
  · simp [invoke, go_sem, eg]
  refine callsIn_wide.2 ((hseq (w.heap.size + 1)
    (fun pre W => I pre W ∧ W.heap[w.heap.size + 1]? = some (.loop (rc .ready none)) ∧ W.heap[w.heap.size]? = some (.deferred (some [])))
    (fun pre W => Ix pre W ∧ W.heap[w.heap.size + 1]? = some (.loop (rc .done (some .ret))) ∧ W.heap[w.heap.size]? = some (.deferred (some [])))
    V hVb ?_ ?_ (fun pre W h => hIK pre W h.1) ?_ ⟨hVI, hVl, hVd⟩).mono ?_)
  · rintro s A B row ⟨q1, q2, q3⟩ hgr hr
    rw [hVs] at hr
    refine ⟨hI s A B row q1 hgr (fun r e => .inr (.inr (hr r e))), ?_, ?_⟩
    · rw [hgr.block _ (Array.getElem?_eq_some_iff.1 q2).1 (fun e => (hX _ (hr _ e.symm)).2 rfl)]; exact q2
    · rw [hgr.block _ (Array.getElem?_eq_some_iff.1 q3).1 (fun e => (hX _ (hr _ e.symm)).1 rfl)]; exact q3
  · rintro s A B row ⟨q1, q2, q3⟩ hgr hr
    rw [hVs] at hr
    refine ⟨hIx s A B row q1 hgr (fun r e => .inr (.inr (hr r e))), ?_, ?_⟩
    · rw [hgr.block _ (Array.getElem?_eq_some_iff.1 q2).1 (fun e => (hX _ (hr _ e.symm)).2 rfl)]; exact q2
    · rw [hgr.block _ (Array.getElem?_eq_some_iff.1 q3).1 (fun e => (hX _ (hr _ e.symm)).1 rfl)]; exact q3
  · rintro pre x W ⟨hi, hl, hd⟩ hlen hsz
    rw [hVs] at hsz
    rw [hVs]
    have hlt : w.heap.size + 1 < W.heap.size := (Array.getElem?_eq_some_iff.1 hl).1
    have hy := run_yield (P := P) (args := encs x) hl (by rw [hrc]; exact hps x)
    rw [hrc] at hy
    refine ⟨fn, _, assign, body, hy, roundIn_of_wpIn hfn (hassign _ x W _ ?_)⟩
    clear hy
    have hal := hlay x W
    have hAl : (lay x W).heap[w.heap.size + 1]? = some (.loop (rc .ready none)) := (hal.block _ hlt).trans hl
    have hltA : w.heap.size + 1 < (lay x W).heap.size := (Array.getElem?_eq_some_iff.1 hAl).1
    have hAI : I pre (lay x W) := hI _ _ _ none hi ⟨hal.os, hal.tape, hal.output, hal.size, fun k hk _ => hal.block k hk⟩ (fun r e => by cases e)
    refine ⟨_, run_beginRound hAl (by rw [hrc]), ?_⟩
    obtain ⟨U, hU⟩ : ∃ U, U = (lay x W).putObj (w.heap.size + 1) (.loop { rc .ready none with state := .busy }) := ⟨_, rfl⟩
    rw [← hU]
    have hUl : U.heap[w.heap.size + 1]? = some (.loop { rc .ready none with state := .busy }) := by rw [hU]; exact World.putObj_heap_same hltA
    have hUo : ∀ k, k ≠ w.heap.size + 1 → U.heap[k]? = (lay x W).heap[k]? := fun k hk => by rw [hU]; exact World.putObj_heap_other hk
    have hUs : U.heap.size = (lay x W).heap.size := by rw [hU]; simp [World.putObj]
    have hUI : I pre U := by rw [hU]; exact hI _ _ _ _ hAI (grownBy_putObj' _ _ _) (fun r e => by cases e; exact .inr (.inl rfl))
    refine wpIn_mono (hbody _ pre x W U (by omega) hUo hUs hUI hlen) ?_
    have fin : ∀ (jump : Option Code) (Z : World), KeepX (TurnX X w.heap.size) U Z →
        (Instr.endRound (w.heap.size + 1) jump).run P Z = .ok (.bool jump.isNone) (Z.putObj (w.heap.size + 1) (.loop (rc (if jump.isNone then .ready else .done) jump))) ∧
        (Z.putObj (w.heap.size + 1) (.loop (rc (if jump.isNone then .ready else .done) jump))).heap[w.heap.size + 1]? = some (.loop (rc (if jump.isNone then .ready else .done) jump)) ∧
        (Z.putObj (w.heap.size + 1) (.loop (rc (if jump.isNone then .ready else .done) jump))).heap[w.heap.size]? = some (.deferred (some [])) ∧
        KeepX (X (w.heap.size + 2)) W (Z.putObj (w.heap.size + 1) (.loop (rc (if jump.isNone then .ready else .done) jump))) := by
      intro jump Z hZ
      have hZl := (hZ.2 _ (.inr (.inl rfl))).trans hUl
      have he := run_endRound (P := P) jump hZl
      refine ⟨by rw [he, hrc], World.putObj_heap_same (Array.getElem?_eq_some_iff.1 hZl).1, ?_, ?_, ?_⟩
      · rw [World.putObj_heap_other (by omega), hZ.2 _ (.inl rfl), hUo _ (by omega), hal.block _ (by omega)]; exact hd
      · have := hZ.1; have := hal.size; simp [World.putObj]; omega
      · intro k hk
        have hk2 := (hX k hk).2
        rw [World.putObj_heap_other hk2, hZ.2 k (.inr (.inr hk)), hUo k hk2, hal.block k (by have := hXl k hk; omega)]
    rintro e a3 Z hp
    cases e with
    | normal =>
      obtain ⟨hZ, hi3⟩ := hp
      obtain ⟨q1, q2, q3, q4⟩ := fin none Z hZ
      exact ⟨_, _, q1, .inl ⟨rfl, ⟨hI _ _ _ _ hi3 (grownBy_putObj' _ _ _) (fun r e => by cases e; exact .inr (.inl rfl)), q2, q3⟩, q4⟩⟩
    | ret =>
      obtain ⟨hZ, hi3⟩ := hp
      obtain ⟨q1, q2, q3, q4⟩ := fin (some .ret) Z hZ
      exact ⟨_, _, q1, .inr ⟨rfl, ⟨hIx _ _ _ _ hi3 (grownBy_putObj' _ _ _) (fun r e => by cases e; exact .inr (.inl rfl)), q2, q3⟩, q4⟩⟩
    | exit id => exact hp.elim
    | goto t => exact hp.elim
    | panic ch => exact hp.elim
    | outgrown => exact hp.elim
  · rintro e W2 ⟨⟨v, rfl⟩, (⟨xs, hS, hi, hl, hd⟩ | ⟨pre, hSp, hi, hl, hd⟩)⟩
    · exact ⟨none, _, by have := run_endLoop (P := P) hl (by rw [hrc]; simp); rw [hrc] at this; exact this, hdone xs _ hS (hI _ _ _ _ hi (grownBy_putObj' _ _ _) (fun r e => by cases e; exact .inr (.inl rfl))) ((World.putObj_heap_other (by omega)).trans hd)⟩
    · exact ⟨some .ret, _, by have := run_endLoop (P := P) hl (by rw [hrc]; simp); rw [hrc] at this; exact this, hstop pre _ hSp (hIx _ _ _ _ hi (grownBy_putObj' _ _ _) (fun r e => by cases e; exact .inr (.inl rfl))) ((World.putObj_heap_other (by omega)).trans hd)⟩
end
end
section
open Go.RowKit
attribute [local go_sem] Oper.semAt_some
def atZero (k : Nat) : Array Value := #[.int .i64 (k : Int), .int .i64 0]
theorem not_lastOnes (n x : Nat) : x ∉ lastOnes n (x + 1) := by
  intro h
  unfold lastOnes at h
  rw [List.mem_reverse] at h
  obtain ⟨i, hi, e⟩ := List.getElem_of_mem h
  rw [List.getElem_drop, List.getElem_range] at e
  omega
/-- what the iterator leans on: those that are not handed on yet are 0 -/
def StillZero (g n : Nat) (pre : List Nat) (W : World) : Prop := ∀ j, j < n → j ∉ pre → W.cell? ⟨g, j, none⟩ = some (.int .i64 0)
set_option maxHeartbeats 2000000 in
set_option maxRecDepth 100000 in
theorem backI_seq (n : Nat) (g bx : Nat) (w : World) (hl : n ≤ 100000) (hbx : w.heap[bx]? = some (.cells #[slV g n] 26 (0, 0))) :
    SeqP Tryz.prog 50 #[.pointer (some ⟨bx, 0, none⟩)] atZero (fun _ k => k = bx) 0 (fun xs => xs = lastOnes n 0) (fun _ => True) (fun pre x => x < n ∧ pre = lastOnes n (x + 1)) (StillZero g n) w := by
  intro lb J Jx W hW hJ hJx hK hY h0
  have hb1 : bx < w.heap.size := (Array.getElem?_eq_some_iff.1 hbx).1
  have k1 := (hW.block _ hb1).trans hbx
  clear hbx
  have c1 : W.cell? ⟨bx, 0, none⟩ = some (.slice (some ⟨g, 0, none⟩) n n) := by rw [Lib.cell_of_heap k1]; rfl
  have hla : lastOnes n n = [] := lastOnes_all n
  refine callsIn_wide.1 (callsIn_of_wp (n := 0) Tryz.func50 rfl trivial ?_ rfl)
  simp only [Tryz.ntmps50, List.size_toArray, List.length_cons, List.length_nil, Nat.reduceAdd, Nat.reduceSub, Array.replicate_succ, Array.replicate_zero, List.push_toArray, List.append_toArray, List.nil_append, List.cons_append]
  gi_wp2
  gi_loopw [3] (fun i wr => ∃ j : Nat, j ≤ n ∧ i = .int .i64 ((j : Int) - 1) ∧ wr.heap[bx]? = some (.cells #[slV g n] 26 (0, 0)) ∧ W.heap.size ≤ wr.heap.size ∧ J (lastOnes n j) wr) (fun i _ => (intOf i + 1).toNat)
  case atStart => exact ⟨n, Nat.le_refl _, rfl, k1, Nat.le_refl _, by rw [hla]; exact h0⟩
  case round =>
    clear k1 c1
    obtain ⟨j, hj, rfl, k1, hsz, hJj⟩ := hrel
    have c1 : wr.cell? ⟨bx, 0, none⟩ = some (.slice (some ⟨g, 0, none⟩) n n) := by rw [Lib.cell_of_heap k1]; rfl
    cases j with
    | zero =>
      gi_wp2_with fail
      go_end0
      exact ⟨⟨_, rfl⟩, .inl ⟨_, rfl, hJj⟩⟩
    | succ j =>
      have p0 := hK _ _ hJj j (by omega) (not_lastOnes n j)
      obtain ⟨fn, tmps, assign, body, hy, hR⟩ := hY (lastOnes n (j + 1)) j wr hJj ⟨by omega, rfl⟩ (by omega)
      unfold atZero at hy
      have HR := hide hR
      have HNX := hide (lastOnes_next n j (by omega))
      have hjn : (j : Int) < (n : Int) := by omega
      have e1 : ((j + 1 : Nat) : Int) - 1 = (j : Int) := by omega
      rw [e1]
      clear hR e1
      gi_wp2_with fail
      refine ⟨rfl, (round_any HR.out).mono ?_⟩
      rintro e W' (⟨rfl, hJ', hk⟩ | ⟨rfl, hJx', hk⟩)
      · have g1 := (hk.2 bx rfl).trans k1
        have hs' := hk.1
        rw [HNX.out] at hJ'
        have HJ' := hide hJ'
        have G1 := hide g1
        clear hJ' hk g1 hY HR hy hK hJj k1
        gi_wp2_with fail
        exact ⟨⟨j, by omega, by go_num, G1.out, by omega, HJ'.out⟩, by simp [intOf]⟩
      · gi_wp2_with fail
        refine bodyPost_ret_by (v := .tuple #[]) ?_ rfl ⟨⟨_, rfl⟩, .inr ⟨_, trivial, hJx'⟩⟩
        simp [results, Tryz.results50, go_sem]
theorem BackwardI_any (lv : Value) (a : Option Addr) (n c : Nat) (h : lv = .slice a n c) (w : World) : Calls Tryz.prog 22 #[lv] w fun e w' => e = .returned (.func (.func 50) #[] #[.pointer (some ⟨w.heap.size, 0, none⟩)]) ∧ w' = w.alloc (.cells #[lv] 26) := by
  subst h
  have hmf : ∀ (fn : Fn) (first cap : Array Value) (w : World), (Instr.makeFunc fn first cap).run Tryz.prog w = .ok (.func fn first cap) w := fun _ _ _ _ => rfl
  go_enter Tryz.func22, Tryz.ntmps22
  go_wp2_with fail
  go_ret
  exact ⟨rfl, rfl⟩
end
section
open Go.RowKit
namespace Rc
/-- so many steps back on the way to a state -/
def back (q : Qu) : Nat → Nat → Nat
  | 0, s => s
  | d + 1, s => back q d (q.at_ s).frm
theorem back_succ (q : Qu) : ∀ d s, back q (d + 1) s = (q.at_ (back q d s)).frm
  | 0, _ => rfl
  | d + 1, s => by show back q (d + 1) (q.at_ s).frm = _; rw [back_succ q d]; rfl
theorem pathOf_at (q : Qu) : ∀ n s i, i < n → (pathOf q n s)[i]? = some (q.at_ (back q (n - 1 - i) s)).by_
  | 0, _, _, h => absurd h (by omega)
  | n + 1, s, i, h => by
    show (pathOf q n (q.at_ s).frm ++ [(q.at_ s).by_])[i]? = _
    by_cases hi : i < n
    · rw [List.getElem?_append_left (by rw [pathOf_len]; exact hi), pathOf_at q n _ i hi]
      obtain ⟨d, hd⟩ : ∃ d, n - 1 - i = d := ⟨_, rfl⟩
      rw [hd, show n + 1 - 1 - i = d + 1 by omega]
      rfl
    · have : i = n := by omega
      subst this
      rw [List.getElem?_append_right (by rw [pathOf_len]; exact Nat.le_refl _), pathOf_len, Nat.sub_self, show i + 1 - 1 - i = 0 by omega]
      rfl
theorem back_far {next : Nat → List Nat} {S : Nat} {q : Qu} (h : Far next S q) (n s : Nat) (hs : s < S) (hf : (q.at_ s).far = n) : ∀ d, d ≤ n → back q d s < S ∧ (q.at_ (back q d s)).far = ((n - d : Nat) : Int)
  | 0, _ => ⟨hs, by rw [show back q 0 s = s from rfl, hf]; rfl⟩
  | d + 1, hd => by
    obtain ⟨h1, h2⟩ := back_far h n s hs hf d (by omega)
    obtain ⟨p1, p2, _⟩ := h.par _ h1 (by omega)
    rw [back_succ]
    exact ⟨p1, by omega⟩
end Rc
/-- the row of inputs, of which the last d are filled -/
def pthRow (q : Rc.Qu) (s n d : Nat) : List Value := List.replicate (n - d) (.int .i64 0) ++ ((Rc.pathOf q n s).drop (n - d)).map intV
theorem pthRow_len (q : Rc.Qu) (s n d : Nat) (hd : d ≤ n) : (pthRow q s n d).length = n := by
  unfold pthRow
  rw [List.length_append, List.length_replicate, List.length_map, List.length_drop, Rc.pathOf_len]
  omega
theorem pthRow_zero (q : Rc.Qu) (s n : Nat) : pthRow q s n 0 = List.replicate n (.int .i64 0) := by
  unfold pthRow
  rw [Nat.sub_zero, List.drop_of_length_le (by rw [Rc.pathOf_len]; exact Nat.le_refl _)]
  simp
theorem pthRow_all (q : Rc.Qu) (s n : Nat) : pthRow q s n n = (Rc.pathOf q n s).map intV := by
  unfold pthRow
  rw [Nat.sub_self]; simp
theorem pthRow_at (q : Rc.Qu) (s n d j : Nat) (hj : j < n - d) : (pthRow q s n d)[j]? = some (.int .i64 0) := by
  unfold pthRow
  rw [List.getElem?_append_left (by simpa using hj), List.getElem?_replicate, if_pos hj]
theorem pthRow_next (q : Rc.Qu) (s n d : Nat) (hd : d < n) : (pthRow q s n d).set (n - d - 1) (intV (q.at_ (Rc.back q d s)).by_) = pthRow q s n (d + 1) := by
  unfold pthRow
  obtain ⟨m, hm⟩ : ∃ m, n - d = m + 1 := ⟨n - d - 1, by omega⟩
  have h1 : m < (Rc.pathOf q n s).length := by rw [Rc.pathOf_len]; omega
  have h2 := Rc.pathOf_at q n s m (by omega)
  rw [show n - 1 - m = d by omega, List.getElem?_eq_getElem h1] at h2
  have h3 := Option.some.inj h2
  rw [hm, show m + 1 - 1 = m by omega, show n - (d + 1) = m by omega, List.replicate_succ', List.append_assoc]
  rw [List.set_append_right _ _ (by simp), List.length_replicate, Nat.sub_self, List.drop_eq_getElem_cons h1, h3]
  rfl
end
end Go.Proofs.YtkfikffnljnepaaGreatDoor
