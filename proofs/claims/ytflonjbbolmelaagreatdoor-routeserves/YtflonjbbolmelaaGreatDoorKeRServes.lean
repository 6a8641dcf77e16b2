/-
  The walk of the statement RouteServes.
-/
import Derived.Test.YtflonjbbolmelaaGreatDoorRoRoutedAll
namespace Go.Proofs.YtflonjbbolmelaaGreatDoor
open Go.RowKit
set_option maxHeartbeats 16000000 in
set_option maxRecDepth 100000 in
theorem routeServes_any (t : Ro.Tbl) (rv lv : Value) (wh : Int) (l : List Int) (w : World) (hr : Ro.Rts w rv t.rts) (hl : Ints w lv l) :
    Calls Tryz.prog 3 #[.agg #[.int .i64 t.secs, .int .i64 t.pts, rv], .int .i64 wh, lv] w fun e w' => e = .returned (.bool true) ∧ Below w.heap.size w w' := by
  obtain ⟨ra, rc, rfl⟩ := hr.slice
  obtain ⟨la, lc, rfl⟩ := hl.slice
  obtain ⟨n, hn⟩ : ∃ n, n = t.rts.length := ⟨_, rfl⟩
  obtain ⟨c, hc⟩ : ∃ c, c = l.length := ⟨_, rfl⟩
  obtain ⟨wA, hwA⟩ : ∃ wA, wA = w.alloc (.cells #[.int .i64 t.secs, .int .i64 t.pts, .slice ra n rc] 24) := ⟨_, rfl⟩
  have hbA : Below w.heap.size w wA := by rw [hwA]; exact Ro.newB _ _
  have rT : Ro.RowIs wA w.heap.size 24 [.int .i64 t.secs, .int .i64 t.pts, .slice ra n rc] := by rw [hwA]; exact Ro.RowIs.new _ _ _
  have HKT : Hid (∀ W, Below wA.heap.size wA W → W.cell? ⟨w.heap.size, 0, none⟩ = some (.int .i64 t.secs) ∧ W.cell? ⟨w.heap.size, 1, none⟩ = some (.int .i64 t.pts) ∧ W.cell? ⟨w.heap.size, 2, none⟩ = some (.slice ra n rc)) := fun W hW => ⟨Ro.kept hW (rT.cell 0 _ rfl), Ro.kept hW (rT.cell 1 _ rfl), Ro.kept hW (rT.cell 2 _ rfl)⟩
  rw [← hn] at hr
  have HLD : Hid (Calls Tryz.prog 4 #[.agg #[.int .i64 t.secs, .int .i64 t.pts, .slice ra n rc]] wA fun e w' => Below wA.heap.size wA w' ∧ ((Ro.check t ≠ none ∧ ∃ ty y, e = .returned (.tuple #[.agg #[.slice none 0 0, .slice none 0 0], .iface ty y])) ∨ (Ro.check t = none ∧ ∃ S P nv pv, Ro.Fits t S P ∧ e = .returned (.tuple #[.agg #[nv, pv], .nilIface]) ∧ IsPrg w' (Ro.ladderE t S P) (.agg #[nv, pv])))) := Ro.ladder_all t _ wA (hr.below hbA)
  have HLI : Hid (∀ W, Below wA.heap.size wA W → Ints W (.slice la c lc) l) := fun W hW => by rw [hc]; exact (hl.below hbA).below hW
  have HN := hide hn
  have HC := hide hc
  have HB0 := hide hbA
  have HW := hide hwA
  have hwl : w.heap.size < wA.heap.size := rT.lt
  have HRO := hide Ro.routed_any
  have hne := Ro.neqNil
  have hnn : ∀ w : World, (binOp BinOp.neq 31 .nilIface .nilIface).run Tryz.prog w = .ok (.bool false) w := fun w => by kernel_rfl
  rw [← hn, ← hc]
  clear hwA hbA rT hr hl hn hc
  go_enter Tryz.func3, Tryz.ntmps3
  go_wp2_with fail
  rw [← HW.out]
  refine HLD.out.mono ?_
  rintro e w1 ⟨hb1, ⟨_, ty, y, rfl⟩ | ⟨hck, S, P, nv, pv, hfit, rfl, hprg⟩⟩
  · have HB1 := hide (Ro.then_ HB0.out hb1)
    clear hb1 HLD HW
    go_wp2_with fail
    refine (HRO.out _).mono ?_
    rintro e w2 ⟨rfl, hb2⟩
    have HB2 := hide (Ro.then_ HB1.out (Ro.then_ (Ro.newB _ _) hb2))
    clear hb2
    go_wp2_with fail
    refine (HRO.out _).mono ?_
    rintro e w3 ⟨rfl, hb3⟩
    have HB3 := hide (Ro.then_ HB2.out hb3)
    clear hb3
    go_wp2_with fail
    go_ret
    exact ⟨rfl, HB3.out⟩
  · obtain ⟨nv', pv', he, hnm, hrg⟩ := hprg
    simp only [Value.agg.injEq] at he
    obtain ⟨rfl, rfl⟩ : nv = nv' ∧ pv = pv' := by simpa using he
    have hpv : ∃ a n c, pv = .slice a n c := by
      rcases hrg with ⟨_, a, cap, h⟩ | ⟨g, cap, h, _⟩
      · exact ⟨_, _, _, h⟩
      · exact ⟨_, _, _, h⟩
    have hnv : ∃ a n c, nv = .slice a n c := by
      rcases hnm with ⟨_, a, cap, h⟩ | ⟨g, cap, h, _⟩
      · exact ⟨_, _, _, h⟩
      · exact ⟨_, _, _, h⟩
    obtain ⟨na, nn, nc, rfl⟩ := hnv
    obtain ⟨pa, pn, pc, rfl⟩ := hpv
    obtain ⟨wB, hwB⟩ : ∃ wB, wB = w1.alloc (.cells #[.slice na nn nc, .slice pa pn pc] 29) := ⟨_, rfl⟩
    have hbB : Below w1.heap.size w1 wB := by rw [hwB]; exact Ro.newB _ _
    have rB : Ro.RowIs wB w1.heap.size 29 [.slice na nn nc, .slice pa pn pc] := by rw [hwB]; exact Ro.RowIs.new _ _ _
    have HKP : Hid (∀ W, Below wB.heap.size wB W → W.cell? ⟨w1.heap.size, 0, none⟩ = some (.slice na nn nc) ∧ W.cell? ⟨w1.heap.size, 1, none⟩ = some (.slice pa pn pc)) := fun W hW => ⟨Ro.kept hW (rB.cell 0 _ rfl), Ro.kept hW (rB.cell 1 _ rfl)⟩
    have HNM : Hid (∀ W, Below wB.heap.size wB W → NamesAt W (.slice na nn nc) (Ro.ladderE t S P).names) := fun W hW => (hnm.below hbB).below hW
    have HPR : Hid (∀ W, Below wB.heap.size wB W → IsPrg W (Ro.ladderE t S P) (.agg #[.slice na nn nc, .slice pa pn pc])) := fun W hW => ⟨_, _, rfl, (hnm.below hbB).below hW, (hrg.below hbB).below hW⟩
    have HBB := hide (Ro.then_ hb1 hbB)
    have HFT := hide hfit
    have HWB := hide hwB
    have hwl1 : w1.heap.size < wB.heap.size := rB.lt
    clear he hnm hrg hwB hbB rB hb1 hfit hck HLD HW
    go_wp2_with fail
    rw [← HWB.out]
    refine (HRO.out _).mono ?_
    rintro e w2 ⟨rfl, hb2⟩
    have HB2 := hide hb2
    clear hb2 HWB
    by_cases h40 : 40 < c
    · have h40i : (40 : Int) < (c : Int) := by omega
      go_wp2_with fail
      refine (HRO.out _).mono ?_
      rintro e w3 ⟨rfl, hb3⟩
      have HB3 := hide (Ro.then_ HB0.out (Ro.then_ HBB.out (Ro.then_ HB2.out hb3)))
      clear hb3
      go_wp2_with fail
      go_ret
      exact ⟨rfl, HB3.out⟩
    · have h40i : ¬ (40 : Int) < (c : Int) := by omega
      obtain ⟨x0, x1, x2⟩ := HKT.out w2 (Ro.then_ HBB.out HB2.out)
      have hR1 := HFT.out.R1
      have hR3 := HFT.out.R3
      have hS3 := HFT.out.S3
      have hP2 := HFT.out.P2
      rw [← HN.out] at hR1 hR3
      obtain ⟨i0, hi0⟩ : ∃ i0, i0 = (wh % 18446744073709551616 % (n : Int)).toNat := ⟨_, rfl⟩
      have hi0n : i0 < n := by rw [hi0]; exact pick_lt wh n hR1
      have HPK := hide (pickR_any wh n w2 hR1 (by omega))
      rw [← hi0] at HPK
      clear hi0
      go_wp2_with fail
      refine HPK.out.mono ?_
      rintro e w3 ⟨rfl, hw3⟩
      obtain rfl := hw3.symm
      obtain ⟨y0, y1⟩ := HKP.out w2 HB2.out
      have HKD := hide (Kind_any (Ro.ladderE t S P).names (.slice na nn nc) (.slice pa pn pc) 1 w2 (HNM.out w2 HB2.out) ⟨_, _, _, rfl⟩)
      have HKL : Hid (Ld.kindL (Ro.ladderE t S P).names 1 = List.range (n + S)) := by
        show _ = _
        rw [HN.out]
        exact Ro.kind_in _ (by rw [← HN.out]; omega) _ (by omega) _ (by omega)
      clear HPK x0 x1 x2
      go_wp2_with fail
      refine HKD.out.mono ?_
      rintro e w4 ⟨kv, rfl, hko, hb4⟩
      obtain ⟨ka, kc, hkv⟩ := own_slice hko
      rw [HKL.out, List.length_range] at hkv
      subst hkv
      have HB4 := hide (Ro.then_ HB2.out hb4)
      obtain ⟨m, hm⟩ : ∃ m, m = n + S := ⟨_, rfl⟩
      have HM := hide hm
      have hm6 : m ≤ 6 := by omega
      have him : i0 < m := by omega
      rw [← hm]
      have HIN := hide (kinputsR_any l (.slice la c lc) m w4 (HLI.out w4 (Ro.then_ HBB.out HB4.out)) (by rw [← HC.out]; omega) (by omega))
      clear hko hb4 HKD y0 y1 hm
      go_wp2_with fail
      refine HIN.out.mono ?_
      rintro e w5 ⟨iv, us, rfl, hin, hb5⟩
      obtain ⟨bs, hbs⟩ : ∃ bs, bs = l.map fun x => bitsTo x m := ⟨_, rfl⟩
      rw [← hbs] at hin
      have hbl : bs.length = c := by rw [hbs, List.length_map]; exact HC.out.symm
      have HBM : Hid (∀ b, b ∈ bs → b.length = m) := fun b hb => by
        rw [hbs] at hb
        obtain ⟨x, _, rfl⟩ := List.mem_map.1 hb
        exact bitsTo_len _ _
      obtain ⟨va, vc, hv⟩ := own_slice hin.own
      rw [hbl] at hv
      subst hv
      have HI5 := hide hin
      have HB5 := hide hb5
      have hs5 := hb5.size
      have HBL := hide hbl
      obtain ⟨i1, hi1, hy0, hy1, hy2⟩ := info_parts Tryz.infoBools
      have hmk : ∀ W : World, (Instr.makeSlice 39 (.int .i64 (m : Int)) (.int .i64 (m : Int))).run Tryz.prog W = .ok (.slice (some ⟨W.heap.size, 0, none⟩) m m) (W.alloc (.cells ⟨List.replicate m (.bool false)⟩ 4)) := fun W => Ro.make_one Tryz.underlying39 Tryz.infoBool rfl (by decide) m (by omega) W
      have HMD : Hid (∀ (W : World), w4.heap.size ≤ W.heap.size → (W.alloc (.cells ⟨List.replicate m (.bool false)⟩ 4)).ownsRow w4.heap.size 4 1 (.slice (some ⟨W.heap.size, 0, none⟩) m m) (List.replicate m false).length ((List.replicate m false).map boolV)) := fun W hW => by
        have h := own_made W w4.heap.size 4 (List.replicate m (.bool false)) hW (by rw [List.length_replicate]; unfold maxLen; omega)
        rw [List.length_replicate] at h ⊢
        rw [List.map_replicate]
        exact h
      clear hin hb5 HIN hbl hbs
      have HOWN : Hid (∀ o1 o2 : Obj, ((w5.alloc o1).alloc o2).ownsRow w4.heap.size 39 1 (.slice va c vc) c us) := fun o1 o2 => by
        have h := own_below (own_below HI5.out.own (Ro.newB _ o1)) (Ro.newB _ o2)
        rw [HBL.out] at h
        exact h
      have HONE : Hid (∀ (a : Addr), ∀ u ∈ [Value.slice (some a) m m], u.oneCell' = true) := fun a u hu => by
        obtain rfl := List.mem_singleton.1 hu
        rfl
      have HNEW : Hid (∀ (o : Obj) (p : Value), ((w5.alloc o).alloc (.cells #[p] 39)).heap[w5.heap.size + 1]? = some (.cells #[p] 39 (0, 0))) := fun o p => by
        have h := heap_alloc_new (w5.alloc o) (.cells #[p] 39)
        rw [World.size_alloc] at h
        exact h
      have HFIN : Hid (∀ (o : Obj) (g cap : Nat) (wC : World), wC.ownsRow w4.heap.size 39 1 (.slice (some ⟨g, 0, none⟩) (c + 1) cap) (c + 1) (us ++ [.slice (some ⟨w5.heap.size, 0, none⟩) m m]) → ((w5.alloc (.cells ⟨List.replicate m (.bool false)⟩ 4)).alloc o).grownBy wC (Value.slice va c vc).ownBlock →
          InsR w4.heap.size wC (.slice (some ⟨g, 0, none⟩) (c + 1) cap) (us ++ [.slice (some ⟨w5.heap.size, 0, none⟩) m m]) (bs ++ [List.replicate m false]) ∧ Below w4.heap.size w4 wC) := fun o g cap wC ho hg => by
        refine ⟨(HI5.out.below (Ro.newB _ _)).put (HMD.out w5 HB5.out.size) o (by rw [HBL.out]; exact ho) hg, ?_⟩
        exact Ro.below_grown (Ro.then_ HB5.out (Ro.then_ (Ro.newB _ _) (Ro.newB _ _))) hg (Ro.ownBlock_new HI5.out.own)
      have hq6 : w4.heap.size ≤ (w5.alloc (.cells ⟨List.replicate m (.bool false)⟩ 4)).heap.size := by rw [World.size_alloc]; omega
      go_upto_region 9 with (at_builtin; refine wpList_append_lies _ rfl (.tmp 44) (.tmp 47) 37 rfl w4.heap.size 39 i1 _ 1 24 Tryz.underlying37 hi1 hy0 hy1 hy2 rfl (by decide) (.slice va c vc) c us rfl (HOWN.out _ _) ⟨w5.heap.size + 1, 0, none⟩ 1 1 [.slice (some ⟨w5.heap.size, 0, none⟩) m m] rfl rfl (World.news_of_block (HNEW.out _ _)) (HONE.out _) (by decide) (by unfold maxLen; omega) (by omega) (by simp; omega) (w5.heap.size + 1 + 1) (by simp) ?_; intro g7 cap7 w7 hown hgrow hat hltg)
      obtain ⟨hi7, hb7⟩ := HFIN.out _ g7 cap7 w7 hown hgrow
      have HI7 := hide hi7
      have HB7 := hide hb7
      have hs7 := hb7.size
      obtain ⟨us7, hus7⟩ : ∃ us7, us7 = us ++ [Value.slice (some ⟨w5.heap.size, 0, none⟩) m m] := ⟨_, rfl⟩
      rw [← hus7] at HI7
      clear hown hgrow hat hltg hi7 hb7 HFIN HNEW HONE HOWN HI5 hq6 hus7
      have r8 : Ro.RowIs (w7.alloc (.cells ⟨List.replicate m (.bool false)⟩ 4)) w7.heap.size 4 (List.replicate m (.bool false)) := Ro.RowIs.new _ _ _
      have x8 := r8.cell i0 (.bool false) (by rw [List.getElem?_replicate, if_pos him])
      have f8 := r8.frozen i0
      have hlt8 := r8.lt
      have him1 : (i0 : Int) < (m : Int) := by omega
      obtain ⟨w9, hw9⟩ : ∃ w9, w9 = w7.alloc (.cells ((Array.replicate m (.bool false)).setIfInBounds i0 (.bool true)) 4) := ⟨_, rfl⟩
      have harr : (Array.replicate m (Value.bool false)).setIfInBounds i0 (.bool true) = ⟨(List.replicate m (.bool false)).set i0 (.bool true)⟩ := by
        apply Array.ext'
        simp
      have r9 : Ro.RowIs w9 w7.heap.size 4 ((List.replicate m (.bool false)).set i0 (.bool true)) := by rw [hw9, harr]; exact Ro.RowIs.new _ _ _
      have hs9 : w7.heap.size < w9.heap.size := by rw [hw9]; simp
      have HB9 : Hid (Below w7.heap.size w7 w9) := by rw [hw9]; exact Ro.newB _ _
      have HW9 := hide hw9
      obtain ⟨zb, hzb⟩ : ∃ zb, zb = List.replicate m false := ⟨_, rfl⟩
      obtain ⟨ab, hab⟩ : ∃ ab, ab = (List.replicate m false).set i0 true := ⟨_, rfl⟩
      have HA9 : Hid (w9.ownsRow w4.heap.size 4 1 (.slice (some ⟨w7.heap.size, 0, none⟩) m m) ab.length (ab.map boolV)) := by
        have e : ab.map boolV = (List.replicate m (.bool false)).set i0 (.bool true) := by rw [hab, List.map_set, List.map_replicate]; rfl
        have el : ab.length = m := by rw [hab]; simp
        rw [e, el]
        refine ⟨by simp, .inr ⟨w7.heap.size, m, _, rfl, hs7, r9, Nat.le_refl _, by unfold maxLen; omega, by simp, ?_⟩⟩
        simp only [Nat.mul_one]
        exact List.take_of_length_le (by simp)
      clear hw9 r8 r9 harr
      go_upto_region 11 with fail
      rw [← HW9.out]
      clear x8 f8 hlt8 HW9
      have HOWN : Hid (∀ o1 o2 : Obj, ((w9.alloc o1).alloc o2).ownsRow w4.heap.size 39 1 (.slice (some ⟨g7, 0, none⟩) (c + 1) cap7) (c + 1) us7) := fun o1 o2 => by
        have h := own_below (own_below (own_below HI7.out.own HB9.out) (Ro.newB _ o1)) (Ro.newB _ o2)
        rw [List.length_append, HBL.out] at h
        exact h
      have HONE : Hid (∀ (a b : Addr), ∀ u ∈ [Value.slice (some a) m m, .slice (some a) m m, .slice (some b) m m], u.oneCell' = true) := fun a b u hu => by
        simp only [List.mem_cons, List.not_mem_nil, or_false] at hu
        rcases hu with rfl | rfl | rfl <;> rfl
      have HNEW : Hid (∀ (o : Obj) (p1 p2 p3 : Value), ((w9.alloc o).alloc (.cells #[p1, p2, p3] 39)).heap[w9.heap.size + 1]? = some (.cells #[p1, p2, p3] 39 (0, 0))) := fun o p1 p2 p3 => by
        have h := heap_alloc_new (w9.alloc o) (.cells #[p1, p2, p3] 39)
        rw [World.size_alloc] at h
        exact h
      have HFIN : Hid (∀ (o : Obj) (g cap : Nat) (wC : World), wC.ownsRow w4.heap.size 39 1 (.slice (some ⟨g, 0, none⟩) (c + 1 + 3) cap) (c + 1 + 3) (us7 ++ [.slice (some ⟨w7.heap.size, 0, none⟩) m m, .slice (some ⟨w7.heap.size, 0, none⟩) m m, .slice (some ⟨w9.heap.size, 0, none⟩) m m]) → ((w9.alloc (.cells ⟨List.replicate m (.bool false)⟩ 4)).alloc o).grownBy wC (Value.slice (some ⟨g7, 0, none⟩) (c + 1) cap7).ownBlock →
          InsAt wC (.slice (some ⟨g, 0, none⟩) (c + 1 + 3) cap) (bs ++ [zb, ab, ab, zb]) ∧ Below w4.heap.size w4 wC) := fun o g cap wC ho hg => by
        have hA := own_below HA9.out (Ro.newB w9 (.cells ⟨List.replicate m (.bool false)⟩ 4))
        have hZ := HMD.out w9 (by have := HB9.out.size; omega)
        rw [← hzb] at hZ
        have hp := ((HI7.out.below HB9.out).below (Ro.newB _ _)).puts (vs := [.slice (some ⟨w7.heap.size, 0, none⟩) m m, .slice (some ⟨w7.heap.size, 0, none⟩) m m, .slice (some ⟨w9.heap.size, 0, none⟩) m m]) (cs := [ab, ab, zb]) rfl (fun j u b hu hb => by
          match j, hu, hb with
          | 0, hu, hb => simp at hu hb; subst hu; subst hb; exact hA
          | 1, hu, hb => simp at hu hb; subst hu; subst hb; exact hA
          | 2, hu, hb => simp at hu hb; subst hu; subst hb; exact hZ
          | j + 3, hu, _ => simp at hu) o (by rw [List.length_append, HBL.out]; exact ho) hg
        refine ⟨?_, Ro.below_grown (Ro.then_ HB7.out (Ro.then_ HB9.out (Ro.then_ (Ro.newB _ _) (Ro.newB _ _)))) hg (Ro.ownBlock_new HI7.out.own)⟩
        have h := hp.insAt (fun b hb => by
          have hl1 : b.length = m := by
            rw [← hzb] at hb
            simp only [List.mem_append, List.mem_cons, List.not_mem_nil, or_false] at hb
            rcases hb with (hb | rfl) | rfl | rfl | rfl
            · exact HBM.out b hb
            · rw [hzb]; simp
            · rw [hab]; simp
            · rw [hab]; simp
            · rw [hzb]; simp
          omega)
        rw [← hzb, List.append_assoc] at h
        exact h
      have hq6 : w4.heap.size ≤ (w9.alloc (.cells ⟨List.replicate m (.bool false)⟩ 4)).heap.size := by rw [World.size_alloc]; omega
      go_upto_region 12 with (at_builtin; refine wpList_append_lies _ rfl (.tmp 54) (.tmp 59) 37 rfl w4.heap.size 39 i1 _ 1 24 Tryz.underlying37 hi1 hy0 hy1 hy2 rfl (by decide) (.slice (some ⟨g7, 0, none⟩) (c + 1) cap7) (c + 1) us7 rfl (HOWN.out _ _) ⟨w9.heap.size + 1, 0, none⟩ 3 3 [.slice (some ⟨w7.heap.size, 0, none⟩) m m, .slice (some ⟨w7.heap.size, 0, none⟩) m m, .slice (some ⟨w9.heap.size, 0, none⟩) m m] rfl rfl (World.news_of_block (HNEW.out _ _ _ _)) (HONE.out _ _) (by decide) (by unfold maxLen; omega) (by omega) (by simp; omega) (w9.heap.size + 1 + 1) (by simp) ?_; intro g10 cap10 w10 hown hgrow hat hltg)
      obtain ⟨hi10, hb10⟩ := HFIN.out _ g10 cap10 w10 hown hgrow
      have HB10 := hide (Ro.then_ HB4.out hb10)
      have HI10 := hide hi10
      clear hown hgrow hat hltg hi10 hb10 HFIN HNEW HONE HOWN HI7 HA9 HMD hq6 hmk
      have HIL : Hid ((bs ++ [zb, ab, ab, zb]).length = c + 4) := by show _ = _; rw [List.length_append, HBL.out]; rfl
      have HPL := hide (Play_any (Ro.ladderE t S P) (.agg #[.slice na nn nc, .slice pa pn pc]) (.slice (some ⟨g10, 0, none⟩) (c + 1 + 3) cap10) (bs ++ [zb, ab, ab, zb]) w10 (HPR.out w10 HB10.out) (Ro.ladder_ok HFT.out) HI10.out (by rw [HIL.out]; omega) (fun b hb => by
        rw [HKL.out, List.length_range, ← HM.out]
        simp only [List.mem_append, List.mem_cons, List.not_mem_nil, or_false] at hb
        rcases hb with hb | rfl | rfl | rfl | rfl
        · exact HBM.out b hb
        · rw [hzb]; simp
        · rw [hab]; simp
        · rw [hab]; simp
        · rw [hzb]; simp))
      have HSV : Hid (Ro.v (Sc.after (Ro.ladderE t S P) (bs ++ [zb, ab, ab])) (m + i0) = true ∧ Ro.v (Sc.after (Ro.ladderE t S P) (bs ++ [zb, ab, ab, zb])) (m + i0) = false) := by
        have h := Ro.serve HFT.out i0 (by rw [← HN.out]; exact hi0n) bs
        rw [← HN.out, ← HM.out] at h
        rw [hab, hzb]
        exact h
      have HNL : Hid (Ld.number (Ro.ladderE t S P).names (Ro.pnm 108 i0) = ((m + i0 : Nat) : Int)) := by
        show _ = _
        rw [HM.out, HN.out]
        exact Ro.num_l _ (by rw [← HN.out]; omega) _ (by omega) _ (by omega) i0 (by rw [← HN.out]; exact hi0n)
      obtain ⟨y0, y1⟩ := HKP.out w10 HB10.out
      go_wp2_with fail
      refine HPL.out.mono ?_
      rintro e w11 ⟨gv, rfl, hst, hb11⟩
      have HB11 := hide (Ro.then_ HB10.out hb11)
      rw [HIL.out] at hst
      clear HPL y0 y1 hb11
      obtain ⟨y0, y1⟩ := HKP.out w11 HB11.out
      have e1 : (Sc.plays (Ro.ladderE t S P) (bs ++ [zb, ab, ab, zb]) (c + 4))[c + 2]? = some (Sc.after (Ro.ladderE t S P) (bs ++ [zb, ab, ab])) := by
        unfold Sc.plays
        rw [List.getElem?_map, List.getElem?_range (by omega)]
        simp only [Option.map_some]
        rw [List.take_append, HBL.out, List.take_of_length_le (by rw [HBL.out]; omega)]
        have : c + 2 + 1 - c = 3 := by omega
        rw [this]
        rfl
      have e2 : (Sc.plays (Ro.ladderE t S P) (bs ++ [zb, ab, ab, zb]) (c + 4))[c + 3]? = some (Sc.after (Ro.ladderE t S P) (bs ++ [zb, ab, ab, zb])) := by
        unfold Sc.plays
        rw [List.getElem?_map, List.getElem?_range (by omega)]
        simp only [Option.map_some]
        rw [List.take_of_length_le (by rw [HIL.out]; omega)]
      have hpl := Sc.plays_len (Ro.ladderE t S P) (bs ++ [zb, ab, ab, zb]) (c + 4)
      obtain ⟨nl, hnl⟩ : ∃ nl, nl = (Ro.ladderE t S P).names.length := ⟨_, rfl⟩
      have hnle : nl = n + S + n + P := by rw [hnl, HN.out]; exact Ro.namesE_len _ _ _
      rw [← hnl] at hst
      obtain ⟨g, cap, hg1, hg2, hg3⟩ : ∃ g cap, gv = .slice (some ⟨g, 0, none⟩) (c + 4) cap ∧ c + 4 ≤ cap ∧ ∀ (i : Nat) s, (Sc.plays (Ro.ladderE t S P) (bs ++ [zb, ab, ab, zb]) (c + 4))[i]? = some s → ∃ gi gc, w11.cell? ⟨g, i * 2, none⟩ = some (slV gi nl) ∧ w11.cell? ⟨g, i * 2 + 1, none⟩ = some (slV gc nl) ∧ StAt w11 gi gc s := by
        rcases hst with ⟨h0, _⟩ | ⟨g, cap, h1, h2, h3⟩
        · rw [h0] at e1; simp at e1
        · rw [hpl] at h1 h2
          exact ⟨g, cap, h1, h2, h3⟩
      subst hg1
      obtain ⟨gi, gc, k1, _, s1⟩ := hg3 _ _ e1
      obtain ⟨gi2, gc2, k2, _, s2⟩ := hg3 _ _ e2
      have hlen1 : ∀ x, (Sc.after (Ro.ladderE t S P) x).is.length = nl := fun x => by rw [hnle, HN.out]; exact Ro.after_len t S P x
      have hat : ∀ (q : List Bool) (b : Bool), q.length = nl → q.getD (m + i0) false = b → q[m + i0]? = some b := fun q b hq hb => by
        have hlt : m + i0 < q.length := by rw [hq, hnle]; have := HM.out; omega
        rw [List.getElem?_eq_getElem hlt]
        rw [List.getD_eq_getElem?_getD, List.getElem?_eq_getElem hlt] at hb
        simpa using hb
      have c1 : w11.cell? ⟨gi, m + i0, none⟩ = some (.bool true) := Ro.RowIs.cell (t := 4) s1.bi (m + i0) _ (by rw [List.getElem?_map, hat _ true (hlen1 _) HSV.out.1]; rfl)
      have c2 : w11.cell? ⟨gi2, m + i0, none⟩ = some (.bool false) := Ro.RowIs.cell (t := 4) s2.bi (m + i0) _ (by rw [List.getElem?_map, hat _ false (hlen1 _) HSV.out.2]; rfl)
      have hkl : m + i0 < nl := by rw [hnle]; have := HM.out; omega
      have HKG : Hid (∀ W, Below w11.heap.size w11 W → W.cell? ⟨g, (c + 2) * 2, none⟩ = some (.slice (some ⟨gi, 0, none⟩) nl nl) ∧ W.cell? ⟨g, (c + 3) * 2, none⟩ = some (.slice (some ⟨gi2, 0, none⟩) nl nl) ∧ W.cell? ⟨gi, m + i0, none⟩ = some (.bool true) ∧ W.cell? ⟨gi2, m + i0, none⟩ = some (.bool false)) := fun W hW => ⟨Ro.kept hW k1, Ro.kept hW k2, Ro.kept hW c1, Ro.kept hW c2⟩
      have HNB := hide (Number_any (Ro.ladderE t S P).names (.slice na nn nc) (.slice pa pn pc) (Ro.pnm 108 i0) w11 (HNM.out w11 HB11.out) ⟨_, _, _, rfl⟩)
      rw [HNL.out] at HNB
      have HKP2 := hide (HKP.out w11 HB11.out)
      have HBF := hide (Ro.then_ HB0.out (Ro.then_ HBB.out HB11.out))
      clear e1 e2 hpl hnl hst hg3 k1 k2 s1 s2 hlen1 hat c1 c2 hab hzb HSV HNL HKL HI10 HPR HNM HFT HLI HBM HIL HB10 HB5 HB7 HB9
      have hi3 : i0 = 0 ∨ i0 = 1 ∨ i0 = 2 := by omega
      rcases hi3 with rfl | rfl | rfl
      · simp only [Nat.add_zero] at HKG HNB hkl
        have hs : (⟨#[108]⟩ : ByteArray) ++ Utf8.encode 48 = ⟨(Ro.pnm 108 0).toArray⟩ := by kernel_rfl
        go_wp2_with fail
        refine HNB.out.mono ?_
        rintro e w12 ⟨rfl, hb12⟩
        obtain ⟨z0, z1, z2, z3⟩ := HKG.out w12 hb12
        have HBL2 := hide (Ro.then_ HBF.out hb12)
        clear hb12 HNB hs
        go_wp2_with fail
        go_ret
        exact ⟨by simp, HBL2.out⟩
      · have hs : (⟨#[108]⟩ : ByteArray) ++ Utf8.encode 49 = ⟨(Ro.pnm 108 1).toArray⟩ := by kernel_rfl
        go_wp2_with fail
        refine HNB.out.mono ?_
        rintro e w12 ⟨rfl, hb12⟩
        obtain ⟨z0, z1, z2, z3⟩ := HKG.out w12 hb12
        have HBL2 := hide (Ro.then_ HBF.out hb12)
        clear hb12 HNB hs
        go_wp2_with fail
        go_ret
        exact ⟨by simp, HBL2.out⟩
      · have hs : (⟨#[108]⟩ : ByteArray) ++ Utf8.encode 50 = ⟨(Ro.pnm 108 2).toArray⟩ := by kernel_rfl
        go_wp2_with fail
        refine HNB.out.mono ?_
        rintro e w12 ⟨rfl, hb12⟩
        obtain ⟨z0, z1, z2, z3⟩ := HKG.out w12 hb12
        have HBL2 := hide (Ro.then_ HBF.out hb12)
        clear hb12 HNB hs
        go_wp2_with fail
        go_ret
        exact ⟨by simp, HBL2.out⟩
end Go.Proofs.YtflonjbbolmelaaGreatDoor
