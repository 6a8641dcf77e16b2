/-
  The walk of package route's clashing.
-/
import Derived.Test.YtflonjbbolmelaaGreatDoorRoFreeAll
namespace Go.Proofs.YtflonjbbolmelaaGreatDoor
namespace Ro
open Go.RowKit
theorem drewN_b (w : World) (n : Nat) : Below w.heap.size w (w.drewN n) := ⟨rfl, rfl, rfl, Nat.le_refl _, fun _ _ => rfl⟩
def natV (i : Nat) : Value := .int .i64 (i : Int)
def SmallR (t : Tbl) : Prop := t.rts.length ≤ 3 ∧ ∀ r, r ∈ t.rts → r.secs.length ≤ 100 ∧ r.pts.length ≤ 100
set_option maxHeartbeats 4000000 in
set_option maxRecDepth 100000 in
theorem clashing_any (t : Tbl) (rv : Value) (i : Nat) (w : World) (hr : Rts w rv t.rts) (hi : i < t.rts.length) (hsm : SmallR t) :
    Calls Tryz.prog 33 #[.agg #[.int .i64 t.secs, .int .i64 t.pts, rv], .int .i64 (i : Int)] w fun e w' => ∃ v, e = .returned v ∧ w'.ownsRow w.heap.size 3 1 v (clashing t i).length ((clashing t i).map natV) ∧ Below w.heap.size w w' := by
  obtain ⟨i0, hi0, hz0, hz1, hz2⟩ := info_parts Tryz.infoInt
  obtain ⟨ra, rc, rfl⟩ := hr.slice
  obtain ⟨n, hn⟩ : ∃ n, n = t.rts.length := ⟨_, rfl⟩
  obtain ⟨wA, hwA⟩ : ∃ wA, wA = w.alloc (.cells #[.int .i64 t.secs, .int .i64 t.pts, .slice ra n rc] 24) := ⟨_, rfl⟩
  have hbA : Below w.heap.size w wA := by rw [hwA]; exact newB _ _
  have rT : RowIs wA w.heap.size 24 [.int .i64 t.secs, .int .i64 t.pts, .slice ra n rc] := by rw [hwA]; exact RowIs.new _ _ _
  have HR := hide hr
  have HN := hide hn
  have hn3 : n ≤ 3 := by rw [hn]; exact hsm.1
  rw [← hn] at hi HR ⊢
  have HSM : Hid (∀ j, j < n → (rt t j).secs.length ≤ 1000 ∧ (rt t j).pts.length ≤ 1000) := fun j hj => by
    have h := hsm.2 (rt t j) (List.mem_of_getElem? (rt_at t j (by rw [← hn]; exact hj)))
    omega
  have x2 := rT.cell 2 _ rfl
  have HB0 := hide hbA
  have HW := hide hwA
  have HX2 : Hid (∀ W, Below wA.heap.size wA W → W.cell? ⟨w.heap.size, 2, none⟩ = some (.slice ra n rc)) := fun W hW => kept hW x2
  have hwl : w.heap.size < wA.heap.size := rT.lt
  clear hwA hbA rT hr hn hsm
  go_enter Tryz.func33, Tryz.ntmps33
  go_wp2_with fail
  rw [← HW.out]
  clear HW x2
  go_loopw [11, 5] (fun iv s wr => ∃ (k m : Nat) (a : Option Addr) (c : Nat), k ≤ n ∧ iv = .int .i64 (k : Int) ∧ s = .slice a m c ∧ Hid (m = (clashTo t i k).length) ∧ m ≤ k ∧ Hid (wr.ownsRow wA.heap.size 3 1 (.slice a m c) m ((clashTo t i k).map natV)) ∧ Hid (Below wA.heap.size wA wr)) (fun iv _ _ => n - (intOf iv).toNat)
  case atStart => exact ⟨0, 0, none, 0, Nat.zero_le _, rfl, rfl, rfl, Nat.le_refl _, World.ownsRow_nil _ _ _ _, Below.refl _ _⟩
  case round =>
    obtain ⟨k, m, a, c, hk, rfl, rfl, HM, hmk, HO, HB⟩ := hrel
    by_cases hlt : k < n
    · have hkl : k < t.rts.length := by rw [← HN.out]; exact hlt
      have hil : i < t.rts.length := by rw [← HN.out]; exact hi
      have HRW := hide ((HR.out.below HB0.out).below HB.out)
      obtain ⟨g, o, sa, sc, pa, pc, rfl, c0, c1, hIs, hPs, _⟩ := HRW.out.cell k _ (rt_at t k hkl)
      obtain ⟨g', o', sa', sc', pa', pc', hgo, d0, d1, hIs', hPs', _⟩ := HRW.out.cell i _ (rt_at t i hil)
      simp only [Option.some.injEq, Addr.mk.injEq, and_true] at hgo
      obtain ⟨rfl, rfl⟩ := hgo
      have hki : (k : Int) < (n : Int) := by omega
      have hii : (i : Int) < (n : Int) := by omega
      obtain ⟨wL, hwL⟩ : ∃ wL, wL = wr.alloc (.cells #[.slice sa (rt t k).secs.length sc, .slice pa (rt t k).pts.length pc] 57) := ⟨_, rfl⟩
      have hbL : Below wr.heap.size wr wL := by rw [hwL]; exact newB _ _
      have rL : RowIs wL wr.heap.size 57 [.slice sa (rt t k).secs.length sc, .slice pa (rt t k).pts.length pc] := by rw [hwL]; exact RowIs.new _ _ _
      have HBL : Hid (Below wA.heap.size wA wL) := then_ HB.out hbL
      have HOL := hide (own_below HO.out hbL)
      have HCL := hide (fun W (hW : Below wL.heap.size wL W) => Clash_any (rt t i) (rt t k) _ _ _ _ W ((hIs'.below hbL).below hW) ((hPs'.below hbL).below hW) ((hIs.below hbL).below hW) ((hPs.below hbL).below hW) (HSM.out i hi).1 (HSM.out i hi).2)
      have HSU := hide (clashTo_succ t i k)
      have y2 := HX2.out wL HBL.out
      have e0 := kept hbL d0
      have e1 := kept hbL d1
      have f0 := rL.cell 0 _ rfl
      have f1 := rL.cell 1 _ rfl
      have HWL := hide hwL
      have hwr : w.heap.size < wr.heap.size := Nat.lt_of_lt_of_le hwl HB.out.size
      have hgl : g < wr.heap.size := World.block_lt_of_cell? _ _ c0
      clear hIs hPs hIs' hPs' hbL hwL rL
      generalize clash (rt t i) (rt t k) = q at *
      generalize (rt t k).secs.length = n1 at *
      generalize (rt t k).pts.length = n2 at *
      generalize (rt t i).secs.length = n3 at *
      generalize (rt t i).pts.length = n4 at *
      by_cases hik : k = i
      · have HT : Hid (clashTo t i (k + 1) = clashTo t i k) := by show _ = _; rw [HSU.out]; simp [hik]
        have hikb : ((k : Int) != (i : Int)) = false := by simp [hik]
        clear HSU hik
        go_wp2_with fail
        rw [← HWL.out]
        go_quiet (fail)
        go_wp2_with fail
        go_roundw
        case rel => exact ⟨k + 1, m, a, c, by omega, by go_num, rfl, by rw [HT.out]; exact HM.out, by omega, by rw [HT.out]; exact own_below HOL.out (drewN_b wL nq), then_ HBL.out (drewN_b wL nq)⟩
        case measure => simp [intOf]; omega
      · have hikb : ((k : Int) != (i : Int)) = true := by simp; omega
        have HSU2 : Hid (clashTo t i (k + 1) = clashTo t i k ++ (if q = true then [k] else [])) := by show _ = _; rw [HSU.out, decide_eq_true hik, Bool.true_and]
        have hdk : Below wL.heap.size wL wL.drew := drewB wL
        have HD := hide hdk
        have HK5 : Hid (∀ W, Below wL.heap.size wL W → W.cell? ⟨w.heap.size, 2, none⟩ = some (.slice (some ⟨g, o, none⟩) n rc) ∧ W.cell? ⟨g, o + i * 2, none⟩ = some (.slice sa' n3 sc') ∧ W.cell? ⟨g, o + i * 2 + 1, none⟩ = some (.slice pa' n4 pc') ∧ W.cell? ⟨wr.heap.size, 0, none⟩ = some (.slice sa n1 sc) ∧ W.cell? ⟨wr.heap.size, 1, none⟩ = some (.slice pa n2 pc)) := fun W hW => ⟨kept hW y2, kept hW e0, kept hW e1, kept hW f0, kept hW f1⟩
        clear HSU hdk hik
        go_wp2_with fail
        rw [← HWL.out]
        go_region_held3 (fun W => W.cell? ⟨w.heap.size, 2, none⟩ = some (.slice (some ⟨g, o, none⟩) n rc) ∧ W.cell? ⟨g, o + i * 2, none⟩ = some (.slice sa' n3 sc') ∧ W.cell? ⟨g, o + i * 2 + 1, none⟩ = some (.slice pa' n4 pc') ∧ W.cell? ⟨wr.heap.size, 0, none⟩ = some (.slice sa n1 sc) ∧ W.cell? ⟨wr.heap.size, 1, none⟩ = some (.slice pa n2 pc)) ((refine HK5.out _ ?_; first | exact HD.out | exact HB2.out | exact Below.refl _ _)) ((go_at_call 17; (with_reducible refine (HCL.out _ HD.out).mono ?_); rintro e w2 ⟨rfl, hb2⟩; have HB2 : Hid (Below wL.heap.size wL w2) := then_ HD.out hb2; clear hb2))
        have HB3 := hide (then_ HBL.out HB2.out)
        have HO3 := hide (own_below HOL.out HB2.out)
        cases q with
        | false =>
          have HT : Hid (clashTo t i (k + 1) = clashTo t i k) := by show _ = _; have h := HSU2.out; simpa using h
          clear HSU2
          go_wp2_with fail
          go_roundw
          case rel => exact ⟨k + 1, m, a, c, by omega, by go_num, rfl, by rw [HT.out]; exact HM.out, by omega, by rw [HT.out]; exact HO3.out, HB3.out⟩
          case measure => simp [intOf]; omega
        | true =>
          have HT : Hid (clashTo t i (k + 1) = clashTo t i k ++ [k]) := by show _ = _; have h := HSU2.out; simpa using h
          have HTL : Hid (m + 1 = (clashTo t i (k + 1)).length) := by show _ = _; rw [HT.out, List.length_append, HM.out]; rfl
          have HTM : Hid ((clashTo t i (k + 1)).map natV = (clashTo t i k).map natV ++ [.int .i64 (k : Int)]) := by show _ = _; rw [HT.out, List.map_append]; rfl
          have HOWN : Hid (∀ o, (w2.alloc o).ownsRow wA.heap.size 3 1 (.slice a m c) m ((clashTo t i k).map natV)) := fun o => own_below HO3.out (newB _ _)
          have HONE : Hid (∀ u ∈ [Value.int .i64 (k : Int)], u.oneCell' = true) := fun u hu => by obtain rfl := List.mem_singleton.1 hu; rfl
          have HBN : Hid (∀ (o : Obj) (wC : World), (w2.alloc o).grownBy wC (Value.slice a m c).ownBlock → Below wA.heap.size wA wC) := fun o wC hg => below_grown (then_ HB3.out (newB _ _)) hg (ownBlock_new HO3.out)
          have hle : wA.heap.size ≤ w2.heap.size := HB3.out.size
          clear HSU2
          go_wp2_with (at_builtin; refine wpList_append_lies _ rfl (.tmp 28) (.tmp 30) 25 rfl wA.heap.size 3 i0 _ 1 8 Tryz.underlying25 hi0 hz0 hz1 hz2 rfl (by decide) (.slice a m c) m ((clashTo t i k).map natV) rfl (HOWN.out _) ⟨w2.heap.size, 0, none⟩ 1 1 [.int .i64 (k : Int)] rfl rfl (World.news_of_block (heap_alloc_new w2 _)) HONE.out (by decide) (by unfold maxLen; omega) (by omega) (by simp; omega) (w2.heap.size + 1) (by simp) ?_; intro g2 cap2 wC hown hgrow hat hltg; have HOC := hide hown; have HBC := hide (HBN.out _ wC hgrow); clear hown hgrow hat)
          go_roundw
          case rel => exact ⟨k + 1, m + 1, some ⟨g2, 0, none⟩, cap2, by omega, by go_num, rfl, HTL.out, by omega, by rw [HTM.out]; exact HOC.out, HBC.out⟩
          case measure => simp [intOf]; omega
    · have hkn : k = n := by omega
      have HRS : Hid (wr.ownsRow w.heap.size 3 1 (.slice a m c) (clashing t i).length ((clashing t i).map natV)) := by
        have h := own_mono HO.out HB0.out.size
        unfold clashing
        rw [← HN.out, ← hkn, ← HM.out]
        exact h
      have HBX := hide (then_ HB0.out HB.out)
      subst hkn
      go_wp2_with fail
      go_ret
      exact ⟨_, rfl, HRS.out, HBX.out⟩
end Ro
end Go.Proofs.YtflonjbbolmelaaGreatDoor
