/-
  The walk of package reach's walk. The walk of package reach's Far.
-/
import Derived.Test.YtglmpkpcbafgdaaGreatDoorRcRowAll
namespace Go.Proofs.YtglmpkpcbafgdaaGreatDoor
section
open Go.RowKit
/-- what walk comes to -/
def Walked (w : World) (S : Nat) (next : Nat → List Nat) (e : Ending) (w' : World) : Prop := ∃ g, e = .returned (slV g S) ∧ RowIs w' g 99 ((Rc.walk next S).steps.flatMap stpCells) ∧ w.heap.size ≤ g ∧ Below w.heap.size w w'
theorem first_row (S : Nat) (k : Nat) (hk : k < S) : (List.replicate k (⟨-1, 0, 0⟩ : Rc.Stp) ++ List.replicate (S - k) Rc.st0).set k ⟨-1, 0, 0⟩ = List.replicate (k + 1) ⟨-1, 0, 0⟩ ++ List.replicate (S - (k + 1)) Rc.st0 := by
  have h := fill_set (List.replicate k (⟨-1, 0, 0⟩ : Rc.Stp)) Rc.st0 ⟨-1, 0, 0⟩ S (by simpa using hk)
  simp only [List.length_replicate, List.length_append, List.length_cons, List.length_nil] at h
  rw [List.replicate_succ']
  exact h
theorem first_at (S k : Nat) : (List.replicate k (⟨-1, 0, 0⟩ : Rc.Stp) ++ List.replicate (S - k) Rc.st0).getD k Rc.st0 = Rc.st0 := by
  rw [List.getD_eq_getElem?_getD, List.getElem?_append_right (by simp), List.getElem?_replicate]
  split <;> rfl
set_option maxHeartbeats 8000000 in
set_option maxRecDepth 100000 in
theorem walk_any (bm S I gN : Nat) (next : Nat → List Nat) (uN : List Nat) (w : World) (h : NextAt w bm S I next gN uN) (hS1 : 1 ≤ S) (hS : S ≤ 4096) (hI : I ≤ 64) (hnl : ∀ s, (next s).length = I) (hnx : ∀ f s, f < S → s ∈ next f → s < S) :
    Calls Tryz.prog 37 #[.pointer (some ⟨bm, 0, none⟩)] w (Walked w S next) := by
  obtain ⟨i0, hi0, hz0, hz1, hz2⟩ := info_parts Tryz.infoInt
  have HNA := hide h
  have HNL := hide hnl
  have HNX := hide hnx
  have mk := fun w => makeSteps S (by omega) w
  obtain ⟨c4, hul, _⟩ := h
  have hbm : bm < w.heap.size := World.block_lt_of_cell? _ _ c4
  obtain ⟨cS, hcS⟩ : ∃ c, c = (List.replicate S Rc.st0).flatMap stpCells := ⟨_, rfl⟩
  rw [← hcS] at mk
  obtain ⟨w1, hw1⟩ : ∃ w1, w1 = w.alloc (.cells ⟨cS⟩ 99) := ⟨_, rfl⟩
  have HR1 : Hid (RowIs w1 w.heap.size 99 ((List.replicate 0 (⟨-1, 0, 0⟩ : Rc.Stp) ++ List.replicate (S - 0) Rc.st0).flatMap stpCells)) := by
    show RowIs w1 w.heap.size 99 ((List.replicate S Rc.st0).flatMap stpCells)
    rw [hw1, ← hcS]; exact RowIs.new _ _ _
  have HB1 : Hid (Below w.heap.size w w1) := by rw [hw1]; exact (Below.refl _ _).alloc (Nat.le_refl _) _
  have hz1' : w1.heap.size = w.heap.size + 1 := by rw [hw1]; simp
  clear hcS hul hnl hnx
  go_enter Tryz.func37, Tryz.ntmps37
  go_wp2_with fail
  rw [← hw1]
  clear hw1
  go_loopw [18] (fun i wr => ∃ k : Nat, k ≤ S ∧ i = .int .i64 (k : Int) ∧ Hid (RowIs wr w.heap.size 99 ((List.replicate k (⟨-1, 0, 0⟩ : Rc.Stp) ++ List.replicate (S - k) Rc.st0).flatMap stpCells)) ∧ Hid (Below w.heap.size w wr)) (fun i _ => S - (intOf i).toNat)
  case atStart => exact ⟨0, Nat.zero_le _, rfl, HR1.out, HB1.out⟩
  case round =>
    obtain ⟨k, hk, rfl, HR, HB⟩ := hrel
    by_cases hlt : k < S
    · have hll : k < (List.replicate k (⟨-1, 0, 0⟩ : Rc.Stp) ++ List.replicate (S - k) Rc.st0).length := by simp; omega
      have r0 := (stp_cell HR.out k hll).1
      have f0 := HR.out.frozen (k * 3)
      have HRN : Hid (RowIs (wr.setCell ⟨w.heap.size, k * 3, none⟩ (.int .i64 (-1))) w.heap.size 99 ((List.replicate (k + 1) (⟨-1, 0, 0⟩ : Rc.Stp) ++ List.replicate (S - (k + 1)) Rc.st0).flatMap stpCells)) := by
        have h1 := HR.out.set (k * 3) (.int .i64 (-1))
        rw [stp_set1 _ _ k hll, first_at S k] at h1
        rw [← first_row S k hlt]; exact h1
      have HBN : Hid (Below w.heap.size w (wr.setCell ⟨w.heap.size, k * 3, none⟩ (.int .i64 (-1)))) := HB.out.setCell (p := ⟨w.heap.size, k * 3, none⟩) (Nat.le_refl _) _
      have hwl : w.heap.size < wr.heap.size := World.block_lt_of_cell? _ _ r0
      clear hll
      go_wp2_with fail
      go_roundw
      case rel => exact ⟨k + 1, by omega, by go_num, HRN.out, HBN.out⟩
      case measure => simp [intOf]; omega
    · have hkS : k = S := by omega
      subst hkS
      have hrow := HR.out
      rw [Nat.sub_self, List.replicate_zero, List.append_nil] at hrow
      have hll : 0 < (List.replicate k (⟨-1, 0, 0⟩ : Rc.Stp)).length := by simp; omega
      have r0 := (stp_cell hrow 0 hll).1
      have f0 := hrow.frozen (0 * 3)
      rw [Nat.zero_mul] at r0 f0
      obtain ⟨wq, rfl⟩ : ∃ wq, wq = wr := ⟨_, rfl⟩
      obtain ⟨w2, hw2⟩ : ∃ w2, w2 = (wq.setCell ⟨w.heap.size, 0, none⟩ (.int .i64 0)).alloc (.cells #[.int .i64 0] 3) := ⟨_, rfl⟩
      have HR2 : Hid (RowIs w2 w.heap.size 99 ((Rc.rounds next (Rc.begin k) 0).steps.flatMap stpCells)) := by
        have h1 := hrow.set (0 * 3) (.int .i64 0)
        rw [stp_set1 _ _ 0 hll] at h1
        have e : (List.replicate k (⟨-1, 0, 0⟩ : Rc.Stp)).getD 0 Rc.st0 = ⟨-1, 0, 0⟩ := by
          rw [List.getD_eq_getElem?_getD, List.getElem?_replicate, if_pos (by omega)]; rfl
        rw [e, Nat.zero_mul] at h1
        rw [hw2]
        exact h1.alloc _
      have hwq : w.heap.size < wq.heap.size := World.block_lt_of_cell? _ _ r0
      have HO2 : Hid (w2.ownsRow (w.heap.size + 1) 3 1 (.slice (some ⟨wq.heap.size, 0, none⟩) 1 1) 1 [.int .i64 0]) := by
        have h1 := own_one (wq.setCell ⟨w.heap.size, 0, none⟩ (.int .i64 0)) (w.heap.size + 1) 3 (.int .i64 0) (by simp [World.setCell]; omega)
        have hz : (wq.setCell ⟨w.heap.size, 0, none⟩ (.int .i64 0)).heap.size = wq.heap.size := by simp [World.setCell]
        rw [hz] at h1
        rw [hw2]; exact h1
      have HB2 : Hid (Below w.heap.size w w2) := by rw [hw2]; exact (HB.out.setCell (p := ⟨w.heap.size, 0, none⟩) (Nat.le_refl _) _).alloc (by simp [World.setCell]; omega) _
      have hk0 : ((k : Int) == 0) = false := by simp; omega
      clear hrow HR HB HR1 HB1 hll
      go_wp2_with fail
      rw [← hw2]
      clear hw2
      go_loopw [5, 6] (fun mv i wr => ∃ j : Nat, i = .int .i64 (j : Int) ∧ j ≤ (Rc.rounds next (Rc.begin k) j).met.length ∧ (∃ a c, mv = .slice a (Rc.rounds next (Rc.begin k) j).met.length c) ∧ Hid (wr.ownsRow (w.heap.size + 1) 3 1 mv (Rc.rounds next (Rc.begin k) j).met.length ((Rc.rounds next (Rc.begin k) j).met.map intV)) ∧ Hid (RowIs wr w.heap.size 99 ((Rc.rounds next (Rc.begin k) j).steps.flatMap stpCells)) ∧ Hid (Below w.heap.size w wr)) (fun _ i _ => k - (intOf i).toNat)
      case atStart => exact ⟨0, rfl, Nat.zero_le _, ⟨_, _, rfl⟩, HO2.out, HR2.out, HB2.out⟩
      case round =>
        obtain ⟨j, rfl, hjm, ⟨la, lc, rfl⟩, HO, HR, HB⟩ := hrel
        obtain ⟨q, hq⟩ : ∃ q, q = Rc.rounds next (Rc.begin k) j := ⟨_, rfl⟩
        have HQ := hide hq
        have HOK : Hid (Rc.Ok next k q j 0) := by rw [hq]; exact Rc.rounds_ok (Rc.begin_ok next k hS1) HNX.out j
        have hmany := HOK.out.many
        rw [← hq] at hjm HO HR ⊢
        clear hq HO2 HR2 HB2
        by_cases hlt : j < q.met.length
        · obtain ⟨f, hf⟩ : ∃ f, q.met[j]? = some f := ⟨_, List.getElem?_eq_getElem hlt⟩
          have HF := hide hf
          have hfk : f < k := HOK.out.lt f (List.mem_of_getElem? hf)
          obtain ⟨gm, hla, hcm, m0⟩ : ∃ g, la = some ⟨g, 0, none⟩ ∧ q.met.length ≤ lc ∧ wr.cell? ⟨g, j, none⟩ = some (intV f) := by
            rcases HO.out.2 with ⟨_, h0⟩ | ⟨g, cap, cur, h1, _, hcur, hcap, _, _, htk⟩
            · omega
            · simp only [Value.slice.injEq] at h1
              exact ⟨g, h1.1, by rw [h1.2.2]; exact hcap, row_cell hcur htk (by rw [List.getElem?_map, hf]; rfl)⟩
          subst hla
          unfold intV at m0
          have hna := HNA.out.below HB.out
          obtain ⟨bN, hbN⟩ : ∃ b, uN[f]? = some b := ⟨_, List.getElem?_eq_getElem (by rw [hna.2.1]; exact hfk)⟩
          have n0 := hna.1
          have n1 := (hna.2.2 f bN hbN).1
          have HBN := hide hbN
          clear hna hbN hf
          go_wp2_with fail
          go_loopw [5, 52] (fun mv i wr => ∃ t : Nat, t ≤ I ∧ i = .int .i64 (t : Int) ∧ (∃ a c, mv = .slice a (Rc.seesTo (next f) f q t).met.length c) ∧ Hid (wr.ownsRow (w.heap.size + 1) 3 1 mv (Rc.seesTo (next f) f q t).met.length ((Rc.seesTo (next f) f q t).met.map intV)) ∧ Hid (RowIs wr w.heap.size 99 ((Rc.seesTo (next f) f q t).steps.flatMap stpCells)) ∧ Hid (Below w.heap.size w wr)) (fun _ i _ => I - (intOf i).toNat)
          case atStart => exact ⟨0, Nat.zero_le _, rfl, ⟨_, _, rfl⟩, HO.out, HR.out, HB.out⟩
          case round =>
            obtain ⟨t, ht, rfl, ⟨la2, lc2, rfl⟩, HO, HR, HB⟩ := hrel
            obtain ⟨q2, hq2⟩ : ∃ q2, q2 = Rc.seesTo (next f) f q t := ⟨_, rfl⟩
            have HQ2 := hide hq2
            obtain ⟨hok2, hf2⟩ := Rc.seesTo_ok HOK.out HF.out (fun s hs => HNX.out f s hfk hs) t (by rw [HNL.out]; exact ht)
            rw [← hq2] at hok2 hf2 HO HR ⊢
            have HOK2 := hide hok2
            have HF2 := hide hf2
            have hmany2 := hok2.many
            clear hq2 hok2 hf2
            by_cases htI : t < I
            · have htl : t < (next f).length := by rw [HNL.out]; exact htI
              have hx := List.getElem?_eq_getElem htl
              have hxk : (next f)[t] < k := HNX.out f _ hfk (List.getElem_mem htl)
              have hna := HNA.out.below HB.out
              have n2 := (hna.2.2 f bN HBN.out).2 t _ hx
              have HNX2 : Hid (Rc.seesTo (next f) f q (t + 1) = Rc.see f q2 t (next f)[t]) := by
                show Rc.see f (Rc.seesTo (next f) f q t) t ((next f).getD t 0) = _
                rw [← HQ2.out]; simp [htl]
              generalize (next f)[t] = x at *
              have hxl : x < q2.steps.length := by rw [HOK2.out.len]; exact hxk
              have hfl : f < q2.steps.length := by rw [HOK2.out.len]; exact hfk
              have r0 := (stp_cell HR.out x hxl).1
              have r1 := (stp_cell HR.out f hfl).1
              have hwr : w.heap.size < wr.heap.size := World.block_lt_of_cell? _ _ r0
              have hfu := HOK2.out.up j f HF2.out
              have hfv := HOK2.out.vis f (List.mem_of_getElem? HF2.out)
              have hjm2 : j < q2.met.length := (List.getElem?_eq_some_iff.1 HF2.out).1
              have HBN2 := hide hbm
              clear hna hx
              by_cases hv : (q2.at_ x).far < 0
              · have HSE : Hid (Rc.see f q2 t x = ⟨q2.steps.set x ⟨(q2.at_ f).far + 1, f, t⟩, q2.met ++ [x]⟩) := by show _ = _; rw [Rc.see, if_pos hv]
                have f0 := HR.out.frozen (x * 3)
                have f1 := HR.out.frozen (x * 3 + 1)
                have f2 := HR.out.frozen (x * 3 + 2)
                obtain ⟨fr, hfr⟩ : ∃ fr, fr = (q2.at_ f).far := ⟨_, rfl⟩
                obtain ⟨xr, hxr⟩ : ∃ xr, xr = (q2.at_ x).far := ⟨_, rfl⟩
                change wr.cell? _ = some (.int .i64 (q2.at_ x).far) at r0
                change wr.cell? _ = some (.int .i64 (q2.at_ f).far) at r1
                rw [← hfr] at HSE r1 hfu hfv
                rw [← hxr] at r0 hv
                obtain ⟨c1, c2, c3⟩ : (wr.cell? ⟨w.heap.size, x * 3, none⟩).isSome ∧ (wr.cell? ⟨w.heap.size, x * 3 + 1, none⟩ = some (.int .i64 ((q2.at_ x).frm : Int))) ∧ (wr.cell? ⟨w.heap.size, x * 3 + 2, none⟩ = some (.int .i64 ((q2.at_ x).by_ : Int))) := ⟨by rw [r0]; rfl, (stp_cell HR.out x hxl).2.1, (stp_cell HR.out x hxl).2.2⟩
                clear hfr hxr
                have hgr : ∀ (A : World) (i : Nat) (v : Value), A.grownBy (A.setCell ⟨w.heap.size, i, none⟩ v) (some w.heap.size) := fun A i v => ⟨rfl, rfl, rfl, by simp [World.setCell], fun b _ hb => Below.heap_setCell _ _ _ _ (fun e => hb (congrArg some e))⟩
                have hne : (Value.slice la2 q2.met.length lc2).ownBlock = none ∨ (Value.slice la2 q2.met.length lc2).ownBlock ≠ some w.heap.size := by
                  cases ho : (Value.slice la2 q2.met.length lc2).ownBlock with
                  | none => exact .inl rfl
                  | some g => exact .inr (fun e => by cases e; have := (HO.out.lt _ ho).1; omega)
                obtain ⟨wS, hwS⟩ : ∃ wS, wS = ((wr.setCell ⟨w.heap.size, x * 3, none⟩ (.int .i64 (fr + 1))).setCell ⟨w.heap.size, x * 3 + 1, none⟩ (.int .i64 (f : Int))).setCell ⟨w.heap.size, x * 3 + 2, none⟩ (.int .i64 (t : Int)) := ⟨_, rfl⟩
                have hzS : wS.heap.size = wr.heap.size := by rw [hwS]; simp [World.setCell]
                have HOS : Hid (∀ o, (wS.alloc o).ownsRow (w.heap.size + 1) 3 1 (.slice la2 q2.met.length lc2) q2.met.length (q2.met.map intV)) := fun o => by
                  rw [hwS]
                  exact (((HO.out.kept (hgr _ _ _) hne).kept (hgr _ _ _) hne).kept (hgr _ _ _) hne).alloc o
                have HRS : Hid (RowIs wS w.heap.size 99 ((q2.steps.set x ⟨fr + 1, f, t⟩).flatMap stpCells)) := by
                  have h1 := ((HR.out.set (x * 3) (.int .i64 (fr + 1))).set (x * 3 + 1) (.int .i64 (f : Int))).set (x * 3 + 2) (.int .i64 (t : Int))
                  have h2 := stp_set3 ⟨fr + 1, f, t⟩ q2.steps x hxl
                  rw [hwS]
                  rw [← h2]; exact h1
                have HBS : Hid (Below w.heap.size w wS) := by
                  rw [hwS]
                  exact ((HB.out.setCell (p := ⟨w.heap.size, x * 3, none⟩) (Nat.le_refl _) _).setCell (p := ⟨w.heap.size, x * 3 + 1, none⟩) (Nat.le_refl _) _).setCell (p := ⟨w.heap.size, x * 3 + 2, none⟩) (Nat.le_refl _) _
                have HNW : Hid (∀ j u, [Value.int .i64 (x : Int)][j]? = some u → (wS.alloc (.cells #[.int .i64 (x : Int)] 3)).cell? ((⟨wr.heap.size, 0, none⟩ : Addr).add j) = some u) := by
                  rw [← hzS]
                  exact World.news_of_block (cs := #[.int .i64 (x : Int)]) (heap_alloc_new wS _)
                have HONE : Hid (∀ u ∈ [Value.int .i64 (x : Int)], u.oneCell' = true) := by
                  intro u hu
                  simp only [List.mem_cons, List.not_mem_nil, or_false] at hu
                  subst hu; rfl
                have HFIN : Hid (∀ (g cap : Nat) (wC : World), wC.ownsRow (w.heap.size + 1) 3 1 (.slice (some ⟨g, 0, none⟩) (q2.met.length + 1) cap) (q2.met.length + 1) (q2.met.map intV ++ [intV x]) → (wS.alloc (.cells #[.int .i64 (x : Int)] 3)).grownBy wC (Value.slice la2 q2.met.length lc2).ownBlock →
                    (wC.ownsRow (w.heap.size + 1) 3 1 (.slice (some ⟨g, 0, none⟩) (q2.met.length + 1) cap) (Rc.seesTo (next f) f q (t + 1)).met.length ((Rc.seesTo (next f) f q (t + 1)).met.map intV) ∧ (Rc.seesTo (next f) f q (t + 1)).met.length = q2.met.length + 1) ∧ RowIs wC w.heap.size 99 ((Rc.seesTo (next f) f q (t + 1)).steps.flatMap stpCells) ∧ Below w.heap.size w wC) := by
                  intro g cap wC hown hgrow
                  rw [HNX2.out, HSE.out]
                  refine ⟨⟨by simpa using hown, by simp⟩, ?_, ?_⟩
                  · have h1 := HRS.out.alloc (.cells #[.int .i64 (x : Int)] 3)
                    refine (hgrow.block _ h1.lt (fun e => ?_)).trans h1
                    have := (HO.out.lt _ e.symm).1
                    omega
                  · exact (HBS.out.alloc HBS.out.size _).grown hgrow (by simp; omega) (fun j e => by have := (HO.out.lt j e).1; omega)
                have hml : q2.met.length + 1 ≤ 100000 := by omega
                rw [hwS] at HOS HNW HFIN
                clear hgr hne hwS
                go_wp2_with (at_builtin; refine wpList_append_lies _ rfl (.tmp 85) (.tmp 87) 26 rfl (w.heap.size + 1) 3 i0 _ 1 8 Tryz.underlying26 hi0 hz0 hz1 hz2 rfl (by decide) (.slice la2 q2.met.length lc2) q2.met.length (q2.met.map intV) rfl (HOS.out _) ⟨wr.heap.size, 0, none⟩ 1 1 [.int .i64 (x : Int)] rfl rfl HNW.out HONE.out (by decide) (by unfold maxLen; omega) (by omega) (by simp [World.setCell]; omega) (wr.heap.size + 1) (by simp [World.setCell]) ?_; intro g2 cap2 wC hown hgrow hat hltg; obtain ⟨⟨hoC, hlC⟩, hrC, hbC⟩ := HFIN.out g2 cap2 wC hown hgrow; have HOC := hide hoC; have HLC := hide hlC; have HBC := hide hbC; have HRC := hide hrC; clear hoC hlC hbC hrC hown hgrow hat)
                go_roundw
                case rel => exact ⟨t + 1, by omega, by go_num, ⟨_, _, by rw [HLC.out]⟩, HOC.out, HRC.out, HBC.out⟩
                case measure => simp [intOf]; omega
              · have HSE : Hid (Rc.seesTo (next f) f q (t + 1) = q2) := by show _ = _; rw [HNX2.out, Rc.see, if_neg hv]
                change wr.cell? _ = some (.int .i64 (q2.at_ x).far) at r0
                obtain ⟨xr, hxr⟩ : ∃ xr, xr = (q2.at_ x).far := ⟨_, rfl⟩
                rw [← hxr] at r0 hv
                clear hxr r1
                go_wp2_with fail
                go_roundw
                case rel => exact ⟨t + 1, by omega, by go_num, ⟨_, _, by rw [HSE.out]⟩, by rw [HSE.out]; exact HO.out, by rw [HSE.out]; exact HR.out, HB.out⟩
                case measure => simp [intOf]; omega
            · have htI' : t = I := by omega
              subst htI'
              have HSE : Hid (Rc.rounds next (Rc.begin k) (j + 1) = q2) := by
                show _ = _
                rw [Rc.rounds, ← HQ.out, HF.out]
                show Rc.seesTo (next f) f q (next f).length = q2
                rw [HNL.out, HQ2.out]
              go_wp2_with fail
              go_roundw
              case rel => exact ⟨j + 1, by go_num, by rw [HSE.out]; have := (List.getElem?_eq_some_iff.1 HF2.out).1; omega, ⟨_, _, by rw [HSE.out]⟩, by rw [HSE.out]; exact HO.out, by rw [HSE.out]; exact HR.out, HB.out⟩
              case measure => simp [intOf]; omega
        · have hjl : j = q.met.length := by omega
          have HEND : Hid (Rc.walk next k = q) := by
            show Rc.rounds next (Rc.begin k) k = q
            have h1 := Rc.rounds_stay (next := next) (q := Rc.begin k) j (by rw [← HQ.out]; omega) (k - j)
            rw [show j + (k - j) = k by omega] at h1
            rw [h1, HQ.out]
          go_wp2_with fail
          go_ret
          exact ⟨w.heap.size, rfl, by rw [HEND.out]; exact HR.out, Nat.le_refl _, HB.out⟩
end
section
open Go.RowKit
def farV (x : Rc.Stp) : Value := .int .i64 x.far
/-- what Far comes to -/
def Fared (w : World) (S : Nat) (next : Nat → List Nat) (e : Ending) (w' : World) : Prop := ∃ g, e = .returned (.tuple #[slV g S, .nilIface]) ∧ RowIs w' g 3 ((Rc.walk next S).steps.map farV) ∧ w.heap.size ≤ g ∧ Below w.heap.size w w'
set_option maxHeartbeats 4000000 in
set_option maxRecDepth 100000 in
theorem Far_any (bm S I gN : Nat) (next : Nat → List Nat) (uN : List Nat) (w : World) (h : NextAt w bm S I next gN uN) (hS1 : 1 ≤ S) (hS : S ≤ 4096) (hI : I ≤ 64) (hnl : ∀ s, (next s).length = I) (hnx : ∀ f s, f < S → s ∈ next f → s < S) :
    Calls Tryz.prog 14 #[.pointer (some ⟨bm, 0, none⟩)] w (Fared w S next) := by
  have HW := hide (walk_any bm S I gN next uN w h hS1 hS hI hnl hnx)
  have pn := fun w a => ptrNe w a
  have mk := fun w => makeIs S (by omega) w
  have HLEN := hide (Rc.walk_far next S hS1 hnx).len
  obtain ⟨cS, hcS⟩ : ∃ c, c = List.replicate S (Value.int .i64 0) := ⟨_, rfl⟩
  rw [← hcS] at mk
  obtain ⟨q, hq⟩ : ∃ q, q = Rc.walk next S := ⟨_, rfl⟩
  have HQ := hide hq
  rw [← hq] at HLEN
  clear h hnl hnx hq
  go_enter Tryz.func14, Tryz.ntmps14
  go_wp2_with fail
  refine HW.out.mono ?_
  rintro e w1 ⟨g, rfl, hrow, hg, hb1⟩
  rw [← HQ.out] at hrow
  have HROW := hide hrow
  have HB1 := hide hb1
  have hgl := hrow.lt
  have hz1 := hb1.size
  clear hrow hb1 HW
  unfold slV
  obtain ⟨w2, hw2⟩ : ∃ w2, w2 = w1.alloc (.cells ⟨cS⟩ 3) := ⟨_, rfl⟩
  have hb2 : Below w1.heap.size w1 w2 := by rw [hw2]; exact (Below.refl _ _).alloc (Nat.le_refl _) _
  have HR2 : Hid (RowIs w2 w1.heap.size 3 ((q.steps.take 0).map farV ++ List.replicate (S - ((q.steps.take 0).map farV).length) (.int .i64 0))) := by
    show RowIs w2 w1.heap.size 3 (List.replicate S (.int .i64 0))
    rw [hw2, ← hcS]; exact RowIs.new _ _ _
  have HB2 := hide hb2
  clear hb2 hcS
  go_wp2_with fail
  rw [← hw2]
  clear hw2
  go_loopw [18] (fun i wr => ∃ k : Nat, k ≤ S ∧ i = .int .i64 (k : Int) ∧ Hid (RowIs wr w1.heap.size 3 ((q.steps.take k).map farV ++ List.replicate (S - ((q.steps.take k).map farV).length) (.int .i64 0))) ∧ Hid (Below w1.heap.size w1 wr)) (fun i _ => S - (intOf i).toNat)
  case atStart => exact ⟨0, Nat.zero_le _, rfl, HR2.out, HB2.out⟩
  case round =>
    obtain ⟨k, hk, rfl, HR, HB⟩ := hrel
    have hlk : ((q.steps.take k).map farV).length = k := by rw [List.length_map, List.length_take, HLEN.out]; omega
    by_cases hlt : k < S
    · have hkl : k < q.steps.length := by rw [HLEN.out]; exact hlt
      obtain ⟨r0, r1, r2⟩ := stp_cell (HROW.out.below HB.out) k hkl
      have c0 : wr.cell? ⟨w1.heap.size, k, none⟩ = some (.int .i64 0) := HR.out.cell k _ (by rw [List.getElem?_append_right (by omega), List.getElem?_replicate, if_pos (by omega)])
      have f0 := HR.out.frozen k
      have hgd : q.steps.getD k Rc.st0 = q.steps[k] := by simp [hkl]
      rw [hgd] at r0 r1 r2
      have hg2 : g < wr.heap.size := World.block_lt_of_cell? _ _ r0
      have hw1 : w1.heap.size < wr.heap.size := World.block_lt_of_cell? _ _ c0
      have HRN : Hid (RowIs (wr.setCell ⟨w1.heap.size, k, none⟩ (.int .i64 q.steps[k].far)) w1.heap.size 3 ((q.steps.take (k + 1)).map farV ++ List.replicate (S - ((q.steps.take (k + 1)).map farV).length) (.int .i64 0))) := by
        have h1 := HR.out.set k (.int .i64 q.steps[k].far)
        have h2 := fill_set ((q.steps.take k).map farV) (.int .i64 0) (.int .i64 q.steps[k].far) S (by omega)
        rw [hlk] at h2
        rw [hlk, h2] at h1
        rw [List.take_succ_eq_append_getElem hkl, List.map_append]
        exact h1
      have HBN : Hid (∀ o, Below w1.heap.size w1 ((wr.setCell ⟨w1.heap.size, k, none⟩ (.int .i64 q.steps[k].far)).alloc o)) := fun o => (HB.out.setCell (p := ⟨w1.heap.size, k, none⟩) (Nat.le_refl _) _).alloc (by simp [World.setCell]; omega) o
      generalize q.steps[k] = x at *
      obtain ⟨xf, xm, xb⟩ := x
      simp only at r0 r1 r2 HRN HBN
      clear hlk hgd
      go_wp2_with fail
      go_roundw
      case rel => exact ⟨k + 1, by omega, by go_num, HRN.out.alloc _, HBN.out _⟩
      case measure => simp [intOf]; omega
    · have hkS : k = S := by omega
      subst hkS
      have hrow := HR.out
      rw [hlk, Nat.sub_self, List.replicate_zero, List.append_nil, List.take_of_length_le (by rw [HLEN.out]; exact Nat.le_refl _)] at hrow
      have HRF := hide hrow
      clear hrow hlk
      go_wp2_with fail
      refine bodyPost_ret (results_tmp2 rfl _ _ _) rfl ?_
      exact ⟨w1.heap.size, rfl, by rw [← HQ.out]; exact HRF.out, hz1, HB1.out.trans (HB.out.mono HB1.out.size)⟩
end
end Go.Proofs.YtglmpkpcbafgdaaGreatDoor
