/-
  The walk of the statement LassoRights.
-/
import Derived.Test.YtafohdcfcaiddaaDoorLsRightsF
import Derived.Test.YtafohdcfcaiddaaDoorLsWant
import Derived.Test.YtafohdcfcaiddaaDoorNmRef
import Derived.Carry
import Derived.Deep.Cut
namespace Go.Proofs.YtafohdcfcaiddaaDoor
namespace Ls
open Go.RowKit
theorem wantN_own (k : Int) (nm : List UInt8) (m : Nat) :
    (wantN k = none ∧ ownN k nm m = 1) ∨ ∃ n0 : Nat, wantN k = some (n0 : Int) ∧ n0 ≤ 2 ∧ ((n0 ≠ m ∧ ownN k nm m = 1) ∨ (m = n0 ∧ k ≠ 1 ∧ nm ≠ [] ∧ ownN k nm m = 1) ∨ (m = n0 ∧ k ≠ 1 ∧ nm = [] ∧ ownN k nm m = 0) ∨ (m = n0 ∧ k = 1 ∧ Nm.name nm = false ∧ ownN k nm m = 5) ∨ (m = n0 ∧ k = 1 ∧ Nm.name nm = true ∧ ownN k nm m = 0)) := by
  unfold wantN ownN
  by_cases hr : 1 ≤ k ∧ k ≤ 10
  · rw [if_pos hr]
    refine .inr ⟨partsOf k, rfl, partsOf_le k, ?_⟩
    by_cases h1 : partsOf k = m
    · have hno : ¬ (k ≠ 1 ∧ nm ≠ []) → ¬ (k < 1 ∨ 10 < k ∨ m ≠ partsOf k ∨ (k ≠ 1 ∧ nm ≠ [])) := fun hn h => by
        rcases h with h | h | h | h
        · omega
        · omega
        · exact h h1.symm
        · exact hn h
      by_cases h2 : k = 1
      · cases h3 : Nm.name nm with
        | false =>
          refine .inr (.inr (.inr (.inl ⟨h1.symm, h2, rfl, ?_⟩)))
          rw [if_neg (hno fun h => h.1 h2), if_pos ⟨h2, rfl⟩]
        | true =>
          refine .inr (.inr (.inr (.inr ⟨h1.symm, h2, rfl, ?_⟩)))
          rw [if_neg (hno fun h => h.1 h2), if_neg (by simp)]
      · by_cases h3 : nm = []
        · refine .inr (.inr (.inl ⟨h1.symm, h2, h3, ?_⟩))
          rw [if_neg (hno fun h => h.2 h3), if_neg (by simp [h2])]
        · refine .inr (.inl ⟨h1.symm, h2, h3, ?_⟩)
          rw [if_pos (.inr (.inr (.inr ⟨h2, h3⟩)))]
    · refine .inl ⟨h1, ?_⟩
      rw [if_pos (.inr (.inr (.inl (fun e => h1 e.symm))))]
  · rw [if_neg hr]
    refine .inl ⟨rfl, ?_⟩
    rw [if_pos (by omega)]
theorem rem_at (x : Int) (m : Nat) (h0 : 0 < m) (hm : m ≤ 1000) : wrap64 ((IntKind.u64.wrap x).tmod (m : Int)) = (atN x m : Int) := by
  have e1 : IntKind.u64.wrap x = x % 18446744073709551616 := IntKind.wrap_u64 x
  have h3 : 0 ≤ x % 18446744073709551616 := Int.emod_nonneg _ (by decide)
  have h4 : 0 ≤ x % 18446744073709551616 % (m : Int) := Int.emod_nonneg _ (by omega)
  have h5 : x % 18446744073709551616 % (m : Int) < (m : Int) := Int.emod_lt_of_pos _ (by omega)
  have e2 : wrap64 (x % 18446744073709551616 % (m : Int)) = x % 18446744073709551616 % (m : Int) := by unfold wrap64; omega
  have e3 : ((atN x m : Nat) : Int) = x % 18446744073709551616 % (m : Int) := by unfold atN; omega
  rw [e3, e1, Int.tmod_eq_emod_of_nonneg h3, e2]
/-- the pair whose second part is none -/
theorem pair_made (W : World) : IsF (fun _ => True) (((W.alloc (.cells #[.int .i64 2, .string ⟨#[]⟩, .slice none 0 0] 54)).alloc (.cells #[.pointer (some ⟨W.heap.size, 0, none⟩), .pointer none] 40)).alloc (.cells #[.int .i64 4, .string ⟨#[]⟩, .slice (some ⟨W.heap.size + 1, 0, none⟩) 2 2] 54)) pairN (.pointer (some ⟨W.heap.size + 1 + 1, 0, none⟩)) ∧
    Below W.heap.size W (((W.alloc (.cells #[.int .i64 2, .string ⟨#[]⟩, .slice none 0 0] 54)).alloc (.cells #[.pointer (some ⟨W.heap.size, 0, none⟩), .pointer none] 40)).alloc (.cells #[.int .i64 4, .string ⟨#[]⟩, .slice (some ⟨W.heap.size + 1, 0, none⟩) 2 2] 54)) := by
  obtain ⟨w1, hw1⟩ : ∃ w1, w1 = W.alloc (.cells #[.int .i64 2, .string ⟨#[]⟩, .slice none 0 0] 54) := ⟨_, rfl⟩
  have r1 : RowIs w1 W.heap.size 54 [.int .i64 2, .string ⟨#[]⟩, .slice none 0 0] := by rw [hw1]; exact RowIs.new _ _ _
  have s1 : w1.heap.size = W.heap.size + 1 := by rw [hw1]; simp
  have b1 : Below W.heap.size W w1 := by rw [hw1]; exact newB _ _
  rw [← hw1]
  obtain ⟨w2, hw2⟩ : ∃ w2, w2 = w1.alloc (.cells #[.pointer (some ⟨W.heap.size, 0, none⟩), .pointer none] 40) := ⟨_, rfl⟩
  have r2 : RowIs w2 (W.heap.size + 1) 40 [.pointer (some ⟨W.heap.size, 0, none⟩), .pointer none] := by rw [hw2, ← s1]; exact RowIs.new _ _ _
  have s2 : w2.heap.size = W.heap.size + 1 + 1 := by rw [hw2]; simp [s1]
  have b2 : Below w1.heap.size w1 w2 := by rw [hw2]; exact newB _ _
  rw [← hw2]
  obtain ⟨w3, hw3⟩ : ∃ w3, w3 = w2.alloc (.cells #[.int .i64 4, .string ⟨#[]⟩, .slice (some ⟨W.heap.size + 1, 0, none⟩) 2 2] 54) := ⟨_, rfl⟩
  have r3 : RowIs w3 (W.heap.size + 1 + 1) 54 [.int .i64 4, .string ⟨#[]⟩, .slice (some ⟨W.heap.size + 1, 0, none⟩) 2 2] := by rw [hw3, ← s2]; exact RowIs.new _ _ _
  have b3 : Below w2.heap.size w2 w3 := by rw [hw3]; exact newB _ _
  rw [← hw3]
  have q1 := (r1.below b2).below b3
  have q2 := r2.below b3
  refine ⟨?_, then_ (then_ b1 b2) b3⟩
  unfold pairN
  refine isF_node.2 ⟨by unfold I64; omega, by simp, by simp [maxLen], _, _, _, trivial, rfl, r3.cell 0 _ rfl, r3.cell 1 _ rfl, r3.cell 2 _ rfl, fun i x hx => ?_⟩
  match i, hx with
  | 0, hx =>
    cases hx
    exact ⟨_, 0, _, trivial, rfl, by simp, q2.cell 0 _ rfl, isF_node.2 ⟨by unfold I64; omega, by simp, by simp, _, _, _, trivial, rfl, q1.cell 0 _ rfl, q1.cell 1 _ rfl, q1.cell 2 _ rfl, fun i x hx => by simp at hx⟩⟩
  | 1, hx =>
    cases hx
    exact ⟨_, 0, _, trivial, rfl, by simp, q2.cell 1 _ rfl, isF_nil.2 rfl⟩
  | i + 2, hx => simp at hx
set_option maxHeartbeats 16000000 in
set_option maxRecDepth 100000 in
theorem lassoRights_any (k : Int) (nm : List UInt8) (pa de : Int) (w : World) (hk : I64 k) (hnm : nm.length ≤ maxLen) (hP : PT w) (hD : ErAs.Door w) :
    Calls Tryd.prog 5 #[.int .i64 k, .string ⟨nm.toArray⟩, .int .i64 pa, .int .i64 de] w fun e w' => e = .returned (.bool true) ∧ Below w.heap.size w w' := by
  obtain ⟨i0, hi0, hz0, hz1, hz2⟩ := info_parts Tryd.infoPF
  have hnl : nm.length ≤ maxLen := hnm
  unfold maxLen at hnl
  by_cases h30 : 30 < nm.length
  · have h30i : (30 : Int) < (nm.length : Int) := by omega
    go_enter Tryd.func5, Tryd.ntmps5
    go_wp2_with fail
    go_ret
    exact ⟨rfl, Below.refl _ _⟩
  have h30i : ¬ (30 : Int) < (nm.length : Int) := by omega
  obtain ⟨m, hm⟩ : ∃ m, m = atN pa 4 := ⟨_, rfl⟩
  obtain ⟨d, hd⟩ : ∃ d, d = atN de 25 := ⟨_, rfl⟩
  have hm4 : m < 4 := by rw [hm]; exact atN_lt _ _ (by decide)
  have hd25 : d < 25 := by rw [hd]; exact atN_lt _ _ (by decide)
  obtain ⟨wA, hwA⟩ : ∃ wA, wA = w.alloc (.cells #[.int .i64 k, .string ⟨nm.toArray⟩, .slice none 0 0] 54) := ⟨_, rfl⟩
  have HN0 : Hid (PR w wA k nm (.slice none 0 0) [] []) := by rw [hwA]; exact PR.first w k nm
  have HWA := hide hwA
  have HXM : Hid (wrap64 ((IntKind.u64.wrap pa).tmod 4) = (m : Int)) := by show _ = _; rw [hm]; exact rem_at pa 4 (by decide) (by decide)
  have HXD : Hid (wrap64 ((IntKind.u64.wrap de).tmod 25) = (d : Int)) := by show _ = _; rw [hd]; exact rem_at de 25 (by decide) (by decide)
  clear hwA hm hd
  go_enter Tryd.func5, Tryd.ntmps5
  go_wp2_with fail
  rw [HXM.out, HXD.out, ← HWA.out]
  generalize IntKind.u64.wrap pa = upa at *
  generalize IntKind.u64.wrap de = ude at *
  clear HXM HXD HWA h30 h30i
  go_loopw [10] (fun iv wr => ∃ (j : Nat) (us : List Value) (v : Value), j ≤ m ∧ iv = .int .i64 (j : Int) ∧ Hid (us.length = j) ∧ Hid (PR w wr k nm v us (List.replicate j truth))) (fun iv _ => m - (intOf iv).toNat)
  case atStart => exact ⟨0, [], .slice none 0 0, Nat.zero_le _, rfl, hide rfl, HN0.out⟩
  case round =>
    obtain ⟨j, us, v, hj, rfl, HUL, HP⟩ := hrel
    have HBW : Hid (Below w.heap.size w wr) := HP.out.bel
    obtain ⟨va, vc, hv⟩ := own_slice HP.out.own
    rw [HUL.out] at hv
    subst hv
    have hn2 := HP.out.node.cell 2 _ rfl
    have hnf := HP.out.node.frozen 2
    have hwl := HP.out.node.lt
    by_cases hlt : j < m
    · have hji : (j : Int) < (m : Int) := by omega
      have HOWN : Hid (∀ (W : World) (o : Obj), Below wr.heap.size wr W → (W.alloc o).ownsRow (w.heap.size + 1) 40 1 (.slice va j vc) j us) := fun W o hW => by
        have h := own_below (own_below HP.out.own hW) (newB W o)
        rw [HUL.out] at h
        exact h
      obtain ⟨w6, hw6⟩ : ∃ w6, w6 = wr.alloc (.cells #[.int .i64 2, .string ⟨#[]⟩, .slice none 0 0] 54) := ⟨_, rfl⟩
      have HB6 : Hid (Below wr.heap.size wr w6) := by rw [hw6]; exact newB _ _
      have HF6 : Hid (IsF (fun b => wr.heap.size ≤ b) w6 truth (.pointer (some ⟨wr.heap.size, 0, none⟩))) := by
        have hr : RowIs w6 wr.heap.size 54 [.int .i64 2, .string ⟨#[]⟩, .slice none 0 0] := by rw [hw6]; exact RowIs.new _ _ _
        exact isF_node.2 ⟨by unfold I64; omega, by simp, by simp, wr.heap.size, none, 0, Nat.le_refl _, rfl, hr.cell 0 _ rfl, hr.cell 1 _ rfl, hr.cell 2 _ rfl, fun i x hx => by simp at hx⟩
      have hs6 : w6.heap.size = wr.heap.size + 1 := by rw [hw6]; simp
      have HONE : Hid (∀ u ∈ [Value.pointer (some ⟨wr.heap.size, 0, none⟩)], u.oneCell' = true) := fun u hu => by
        obtain rfl := List.mem_singleton.1 hu
        rfl
      have HFIN : Hid (∀ (g cap : Nat) (wE : World), wE.ownsRow (w.heap.size + 1) 40 1 (.slice (some ⟨g, 0, none⟩) (j + 1) cap) (j + 1) (us ++ [.pointer (some ⟨wr.heap.size, 0, none⟩)]) → (w6.alloc (.cells #[.pointer (some ⟨wr.heap.size, 0, none⟩)] 40)).grownBy wE (Value.slice va j vc).ownBlock → ((Value.slice va j vc).ownBlock = some g ∨ g = wr.heap.size + 1 + 1) → PR w (wE.setCell ⟨w.heap.size, 2, none⟩ (.slice (some ⟨g, 0, none⟩) (j + 1) cap)) k nm (.slice (some ⟨g, 0, none⟩) (j + 1) cap) (us ++ [.pointer (some ⟨wr.heap.size, 0, none⟩)]) (List.replicate (j + 1) truth) ∧ wE.cell? ⟨w.heap.size, 2, none⟩ = some (.slice va j vc) ∧ wE.frozen? ⟨w.heap.size, 2, none⟩ = false) := fun g cap wE ho hg hat => by
        have hul := HUL.out
        have h := PR.grow (g := g) (cap := cap) HP.out HB6.out HF6.out (by rw [hul]; exact ho) hg (by rw [hs6]; exact hat)
        rw [hul] at h
        rw [List.replicate_succ']
        have hne : some w.heap.size ≠ (Value.slice va j vc).ownBlock := by
          rcases ownBlock_new HP.out.own with h | ⟨g', h, hl⟩
          · rw [h]; intro e; cases e
          · rw [h]; intro e; cases e; omega
        have hnd : RowIs wE w.heap.size 54 [.int .i64 k, .string ⟨nm.toArray⟩, .slice va j vc] := (hg.block _ (by have h1 := HP.out.node.lt; have h2 := HB6.out.size; simp; omega) hne).trans ((HP.out.node.below HB6.out).alloc _)
        exact ⟨h, hnd.cell 2 _ rfl, hnd.frozen 2⟩
      have HNEW : Hid (∀ p : Value, (w6.alloc (.cells #[p] 40)).heap[wr.heap.size + 1]? = some (.cells #[p] 40 (0, 0))) := fun p => by
        have h := heap_alloc_new w6 (.cells #[p] 40)
        rw [hs6] at h
        exact h
      have hle6 : w.heap.size + 1 ≤ w6.heap.size := by have h2 := HB6.out.size; omega
      rw [hw6] at HFIN hle6 HNEW
      clear hw6 hs6
      go_wp2_with (at_builtin; refine wpList_append_lies _ rfl (.tmp 41) (.tmp 44) 52 rfl (w.heap.size + 1) 40 i0 _ 1 8 Tryd.underlying52 hi0 hz0 hz1 hz2 rfl (by decide) (.slice va j vc) j us rfl (HOWN.out _ _ (newB _ _)) ⟨(wr.heap.size + 1), 0, none⟩ 1 1 [.pointer (some ⟨wr.heap.size, 0, none⟩)] rfl rfl (World.news_of_block (HNEW.out _)) HONE.out (by decide) (by unfold maxLen; omega) (by omega) (by simp; omega) (wr.heap.size + 1 + 1) (by simp) ?_; intro g7 cap7 wD hown hgrow hat hltg; obtain ⟨hpn, wd0, wdf⟩ := HFIN.out g7 cap7 wD hown hgrow hat; have HP7 := hide hpn; clear hpn hown hgrow hat)
      go_roundw
      case rel => exact ⟨j + 1, us ++ [Value.pointer (some ⟨wr.heap.size, 0, none⟩)], Value.slice (some ⟨g7, 0, none⟩) (j + 1) cap7, by omega, by go_num, hide (by rw [List.length_append, HUL.out]; rfl), HP7.out⟩
      case measure => simp [intOf]; omega
    · have hjm : j = m := by omega
      subst hjm
      have HF : Hid (IsF (fun _ => True) wr (root k nm j) (.pointer (some ⟨w.heap.size, 0, none⟩))) := HP.out.isF hk hnm (by rw [List.length_replicate]; unfold maxLen; omega)
      clear hn2 hnf hwl HP HN0
      obtain ⟨W1, W2, W3, W4, W5, W6, W7, W8, W9, W10, r1, r2, r3, r4, r5, r6, r7, r8, r9, r10, hbW, hlook⟩ := want_made wr
      have hlk := hlook k hk
      have HBM := hide hbW
      have HF10 := hide (HF.out.below hbW)
      have HB10 : Hid (Below w.heap.size w W10) := then_ HBW.out hbW
      clear hlook hbW HF HBW
      have hmk := @run_makeMap Tryd.prog
      have hnl2 : nm.length ≤ maxLen := hnm
      have HNC := hide (NameCheck_any ⟨nm.toArray⟩ W10 hnl2)
      have HPT : Hid (∀ W, Below w.heap.size w W → PT W) := fun W hW => hP.below hW
      have HDR : Hid (∀ W, Below w.heap.size w W → ErAs.Door W) := fun W hW => door_below hD hW
      have hji : ¬ (j : Int) < (j : Int) := by omega
      clear hP hD i0 hi0 hz0 hz1 hz2
      have HNR := hide (right_nots k nm j d (by omega) (by omega))
      have HNW : Hid (∀ W, Below w.heap.size w W → (∀ o, Below w.heap.size w (W.alloc o))) := fun W hW o => then_ hW (newB _ _)
      obtain ⟨ow, how⟩ : ∃ ow, ow = ownN k nm j := ⟨_, rfl⟩
      have HOW := hide how
      clear how
      have hprep : ∃ (n0 : Nat) (b0 : Bool), (Instr.lookup 55 (.map (some wr.heap.size)) (.int .i64 k) true).run Tryd.prog W10 = .ok (.tuple #[.int .i64 (n0 : Int), .bool b0]) W10 ∧ ((b0 = false ∧ ow = 1) ∨ b0 = true ∧ ((n0 ≠ j ∧ ow = 1) ∨ (j = n0 ∧ k ≠ 1 ∧ nm ≠ [] ∧ ow = 1) ∨ (j = n0 ∧ k ≠ 1 ∧ nm = [] ∧ ow = 0) ∨ (j = n0 ∧ k = 1 ∧ Nm.name nm = false ∧ ow = 5) ∨ (j = n0 ∧ k = 1 ∧ Nm.name nm = true ∧ ow = 0))) := by
        rw [HOW.out]
        rcases wantN_own k nm j with ⟨hw0, ho⟩ | ⟨n0, hw0, hn02, hc⟩
        · rw [hw0] at hlk
          exact ⟨0, false, hlk, .inl ⟨rfl, ho⟩⟩
        · rw [hw0] at hlk
          exact ⟨n0, true, hlk, .inr ⟨rfl, hc⟩⟩
      obtain ⟨n0, b0, hlk2, hc⟩ := hprep
      clear hlk
      have HLO : Hid (ow ≤ 9) := by show _ ≤ _; omega
      rcases hc with ⟨rfl, ho⟩ | ⟨rfl, (⟨hnj, ho⟩ | ⟨rfl, hk1, hn0, ho⟩ | ⟨rfl, hk1, rfl, ho⟩ | ⟨rfl, rfl, hnn, ho⟩ | ⟨rfl, rfl, hnn, ho⟩)⟩
      all_goals have HO := hide ho
      all_goals clear ho
      · have HE : Hid (Value.int IntKind.i64 1 = .int .i64 (ow : Int)) := by show _ = _; rw [HO.out]; rfl
        go_upto_region 16 with fail
        go_cut [14, 15] from 48 (fun e z wx => e = .int .i64 (ow : Int) ∧ z = .int .i64 0 ∧ Hid (wx = W10))
        case first =>
          go_wp2_with fail
          go_meet
          exact ⟨HE.out, rfl, rfl⟩
        case rest =>
          obtain ⟨rfl, rfl, hwc⟩ := hcut
          have hwc' := hwc.out
          subst hwc'
          clear hwc HE HO
          go_wp2_with fail
          go_loopw [15, 9] (fun iv fv wx => ∃ (i : Nat) (p : Option Addr), i ≤ d ∧ iv = .int .i64 (i : Int) ∧ fv = .pointer p ∧ Hid (IsF (fun _ => True) wx (nots i (root k nm j)) (.pointer p)) ∧ Hid (Below w.heap.size w wx)) (fun iv _ _ => d - (intOf iv).toNat)
          case atStart => exact ⟨0, _, Nat.zero_le _, rfl, rfl, HF10.out, HB10.out⟩
          case round =>
            obtain ⟨i, p, hi, rfl, rfl, HFX, HBX⟩ := hrel
            by_cases hlt : i < d
            · have hii : (i : Int) < (d : Int) := by omega
              have HWR := hide (wrapped HFX.out)
              go_wp2_with fail
              go_roundw
              case rel => exact ⟨i + 1, _, by omega, by go_num, rfl, HWR.out.1, then_ HBX.out HWR.out.2⟩
              case measure => simp [intOf]; omega
            · have hid : i = d := by omega
              subst hid
              have hii : ¬ (i : Int) < (i : Int) := by omega
              have HPM := hide (pair_made wr)
              obtain ⟨ask, hask⟩ : ∃ ask, ask = askN k nm j i := ⟨_, rfl⟩
              have HAK : Hid (ask = if 20 < i + 1 ∨ (ow = 0 ∧ 0 < j ∧ 20 < i + 2) then 4 else ow) := by show _ = _; rw [hask, HOW.out]; rfl
              have HRA : Hid (num (right (nots i (root k nm j))) = ask) := HNR.out.trans hask.symm
              have HPR : Hid (right pairN = some 7) := right_pair
              have HPX : Hid (Below w.heap.size w (((wr.alloc (.cells #[.int .i64 2, .string ⟨#[]⟩, .slice none 0 0] 54)).alloc (.cells #[.pointer (some ⟨wr.heap.size, 0, none⟩), .pointer none] 40)).alloc (.cells #[.int .i64 4, .string ⟨#[]⟩, .slice (some ⟨wr.heap.size + 1, 0, none⟩) 2 2] 54))) := then_ HBX.out HPM.out.2
              have HFY := hide (HFX.out.below HPM.out.2)
              clear hask HNR
              have hlo : ow ≤ 9 := by
                have := HLO.out
                exact this
              generalize nots i (root k nm j) = xx at *
              have hfive : (20 < i + 1) ∨ (¬ 20 < i + 1 ∧ ow = 0 ∧ 0 < j ∧ 20 < i + 2) ∨ (¬ 20 < i + 1 ∧ ow = 0 ∧ 0 < j ∧ ¬ 20 < i + 2) ∨ (¬ 20 < i + 1 ∧ ow = 0 ∧ ¬ 0 < j) ∨ (¬ 20 < i + 1 ∧ ow ≠ 0) := by omega
              rcases hfive with hA | ⟨hA, hB, hC, hE⟩ | ⟨hA, hB, hC, hE⟩ | ⟨hA, hB, hC⟩ | ⟨hA, hB⟩
              · have hAi : (20 : Int) < (i : Int) + 1 := by omega
                have HK4 : Hid (Value.int IntKind.i64 4 = .int .i64 (ask : Int)) := by show _ = _; rw [HAK.out, if_pos (.inl hA)]; rfl
                go_upto_region 22 with fail
                go_cut [14, 16] from 80 (fun e g wx => e = .int .i64 (ask : Int) ∧ ∃ b, g = .pointer (some ⟨b, 0, none⟩) ∧ Hid (IsF (fun _ => True) wx pairN (.pointer (some ⟨b, 0, none⟩))) ∧ Hid (IsF (fun _ => True) wx xx (.pointer p)) ∧ Hid (Below w.heap.size w wx))
                case first =>
                  go_wp2_with fail
                  go_meet
                  exact ⟨HK4.out, _, rfl, HPM.out.1, HFY.out, HPX.out⟩
                case rest =>
                  obtain ⟨rfl, b, rfl, HPG, HFG, HBG⟩ := hcut
                  clear HK4 HPM HFY HPX HFX HAK
                  have HR1 := hide (Right_any xx _ wc HFG.out (HPT.out wc HBG.out))
                  have HBR : Hid (∀ W, Below w.heap.size w W → Calls Tryd.prog 8 #[errV (right xx), .int .i64 (ask : Int)] W fun x w' => x = .returned (.bool true) ∧ Below W.heap.size W w') := fun W hW => (bare_any (right xx) ask W (HDR.out W hW)).mono fun e w' h => ⟨h.1.trans (by rw [HRA.out]; simp), h.2⟩
                  have hx : (∃ t v, errV (right xx) = .iface t v) ∨ errV (right xx) = .nilIface := by
                    cases right xx with
                    | none => exact .inr rfl
                    | some k => exact .inl ⟨_, _, rfl⟩
                  generalize errV (right xx) = ev at *
                  have HRP : Hid (∀ W, Below wc.heap.size wc W → Calls Tryd.prog 15 #[.pointer (some ⟨b, 0, none⟩)] W fun e w' => e = .returned (.iface 30 (.int .i64 7)) ∧ Below W.heap.size W w') := fun W hW => (Right_any pairN _ W (HPG.out.below hW) (HPT.out W (then_ HBG.out hW))).mono fun e w' h => ⟨h.1.trans (by rw [HPR.out]; rfl), h.2⟩
                  have HRN : Hid (∀ W, Below w.heap.size w W → Calls Tryd.prog 15 #[.pointer none] W fun e w' => e = .returned (.iface 30 (.int .i64 7)) ∧ Below W.heap.size W w') := fun W hW => (Right_any nilF _ W (isF_nil.2 rfl) (HPT.out W hW)).mono fun e w' h => ⟨h.1.trans (by rw [right_nil]; rfl), h.2⟩
                  have HB7 : Hid (∀ W, Below w.heap.size w W → Calls Tryd.prog 8 #[.iface 30 (.int .i64 7), .int .i64 7] W fun x w' => x = .returned (.bool true) ∧ Below W.heap.size W w') := fun W hW => (bare_any (some 7) 7 W (HDR.out W hW)).mono fun e w' h => ⟨h.1.trans (by simp [num]), h.2⟩
                  clear HPG HFG HPR
                  rcases hx with ⟨tv, vv, rfl⟩ | rfl
                  all_goals
                    go_wp2_with fail
                    refine HR1.out.mono ?_
                    rintro e w5 ⟨rfl, hb5⟩
                    have HW5 := hide hb5
                    have HB5 := hide (then_ HBG.out hb5)
                    have HC5 := hide (HBR.out w5 HB5.out)
                    clear hb5 HR1 HBR
                    go_wp2_with fail
                    refine HC5.out.mono ?_
                    rintro e w6 ⟨rfl, hb6⟩
                    have HW6 := hide (then_ HW5.out hb6)
                    have HB6 := hide (then_ HB5.out hb6)
                    have HC6 := hide (HRP.out w6 HW6.out)
                    clear hb6 HC5 HRP
                    go_wp2_with fail
                    refine HC6.out.mono ?_
                    rintro e w7 ⟨rfl, hb7⟩
                    have HBB7 := hide (then_ HB6.out hb7)
                    have HC7 := hide (HB7.out w7 HBB7.out)
                    clear hb7 HC6
                    go_wp2_with fail
                    refine HC7.out.mono ?_
                    rintro e w8 ⟨rfl, hb8⟩
                    have HBB8 := hide (then_ HBB7.out hb8)
                    have HC8 := hide (HRN.out w8 HBB8.out)
                    clear hb8 HC7 HRN
                    go_wp2_with fail
                    refine HC8.out.mono ?_
                    rintro e w9 ⟨rfl, hb9⟩
                    have HBB9 := hide (then_ HBB8.out hb9)
                    have HC9 := hide (HB7.out w9 HBB9.out)
                    clear hb9 HC8 HB7
                    go_wp2_with fail
                    refine HC9.out.mono ?_
                    rintro e w10 ⟨rfl, hb10⟩
                    have HBB10 := hide (then_ HBB9.out hb10)
                    clear hb10 HC9
                    go_wp2_with fail
                    go_ret
                    exact ⟨rfl, HBB10.out⟩
              · have hAi : ¬ (20 : Int) < (i : Int) + 1 := by omega
                have hBi : ((ow : Int) == 0) = true := by simp [hB]
                have hCi : (0 : Int) < (j : Int) := by omega
                have hEi : (20 : Int) < (i : Int) + 2 := by omega
                have HK4 : Hid (Value.int IntKind.i64 4 = .int .i64 (ask : Int)) := by show _ = _; rw [HAK.out, if_pos (.inr ⟨hB, hC, hE⟩)]; rfl
                go_upto_region 22 with fail
                go_cut [14, 16] from 80 (fun e g wx => e = .int .i64 (ask : Int) ∧ ∃ b, g = .pointer (some ⟨b, 0, none⟩) ∧ Hid (IsF (fun _ => True) wx pairN (.pointer (some ⟨b, 0, none⟩))) ∧ Hid (IsF (fun _ => True) wx xx (.pointer p)) ∧ Hid (Below w.heap.size w wx))
                case first =>
                  go_wp2_with fail
                  go_meet
                  exact ⟨HK4.out, _, rfl, HPM.out.1, HFY.out, HPX.out⟩
                case rest =>
                  obtain ⟨rfl, b, rfl, HPG, HFG, HBG⟩ := hcut
                  clear HK4 HPM HFY HPX HFX HAK
                  have HR1 := hide (Right_any xx _ wc HFG.out (HPT.out wc HBG.out))
                  have HBR : Hid (∀ W, Below w.heap.size w W → Calls Tryd.prog 8 #[errV (right xx), .int .i64 (ask : Int)] W fun x w' => x = .returned (.bool true) ∧ Below W.heap.size W w') := fun W hW => (bare_any (right xx) ask W (HDR.out W hW)).mono fun e w' h => ⟨h.1.trans (by rw [HRA.out]; simp), h.2⟩
                  have hx : (∃ t v, errV (right xx) = .iface t v) ∨ errV (right xx) = .nilIface := by
                    cases right xx with
                    | none => exact .inr rfl
                    | some k => exact .inl ⟨_, _, rfl⟩
                  generalize errV (right xx) = ev at *
                  have HRP : Hid (∀ W, Below wc.heap.size wc W → Calls Tryd.prog 15 #[.pointer (some ⟨b, 0, none⟩)] W fun e w' => e = .returned (.iface 30 (.int .i64 7)) ∧ Below W.heap.size W w') := fun W hW => (Right_any pairN _ W (HPG.out.below hW) (HPT.out W (then_ HBG.out hW))).mono fun e w' h => ⟨h.1.trans (by rw [HPR.out]; rfl), h.2⟩
                  have HRN : Hid (∀ W, Below w.heap.size w W → Calls Tryd.prog 15 #[.pointer none] W fun e w' => e = .returned (.iface 30 (.int .i64 7)) ∧ Below W.heap.size W w') := fun W hW => (Right_any nilF _ W (isF_nil.2 rfl) (HPT.out W hW)).mono fun e w' h => ⟨h.1.trans (by rw [right_nil]; rfl), h.2⟩
                  have HB7 : Hid (∀ W, Below w.heap.size w W → Calls Tryd.prog 8 #[.iface 30 (.int .i64 7), .int .i64 7] W fun x w' => x = .returned (.bool true) ∧ Below W.heap.size W w') := fun W hW => (bare_any (some 7) 7 W (HDR.out W hW)).mono fun e w' h => ⟨h.1.trans (by simp [num]), h.2⟩
                  clear HPG HFG HPR
                  rcases hx with ⟨tv, vv, rfl⟩ | rfl
                  all_goals
                    go_wp2_with fail
                    refine HR1.out.mono ?_
                    rintro e w5 ⟨rfl, hb5⟩
                    have HW5 := hide hb5
                    have HB5 := hide (then_ HBG.out hb5)
                    have HC5 := hide (HBR.out w5 HB5.out)
                    clear hb5 HR1 HBR
                    go_wp2_with fail
                    refine HC5.out.mono ?_
                    rintro e w6 ⟨rfl, hb6⟩
                    have HW6 := hide (then_ HW5.out hb6)
                    have HB6 := hide (then_ HB5.out hb6)
                    have HC6 := hide (HRP.out w6 HW6.out)
                    clear hb6 HC5 HRP
                    go_wp2_with fail
                    refine HC6.out.mono ?_
                    rintro e w7 ⟨rfl, hb7⟩
                    have HBB7 := hide (then_ HB6.out hb7)
                    have HC7 := hide (HB7.out w7 HBB7.out)
                    clear hb7 HC6
                    go_wp2_with fail
                    refine HC7.out.mono ?_
                    rintro e w8 ⟨rfl, hb8⟩
                    have HBB8 := hide (then_ HBB7.out hb8)
                    have HC8 := hide (HRN.out w8 HBB8.out)
                    clear hb8 HC7 HRN
                    go_wp2_with fail
                    refine HC8.out.mono ?_
                    rintro e w9 ⟨rfl, hb9⟩
                    have HBB9 := hide (then_ HBB8.out hb9)
                    have HC9 := hide (HB7.out w9 HBB9.out)
                    clear hb9 HC8 HB7
                    go_wp2_with fail
                    refine HC9.out.mono ?_
                    rintro e w10 ⟨rfl, hb10⟩
                    have HBB10 := hide (then_ HBB9.out hb10)
                    clear hb10 HC9
                    go_wp2_with fail
                    go_ret
                    exact ⟨rfl, HBB10.out⟩
              · have hAi : ¬ (20 : Int) < (i : Int) + 1 := by omega
                have hBi : ((ow : Int) == 0) = true := by simp [hB]
                have hCi : (0 : Int) < (j : Int) := by omega
                have hEi : ¬ (20 : Int) < (i : Int) + 2 := by omega
                have HK4 : Hid (Value.int IntKind.i64 0 = .int .i64 (ask : Int)) := by show _ = _; rw [HAK.out, if_neg (by omega), hB]; rfl
                go_upto_region 22 with fail
                go_cut [14, 16] from 80 (fun e g wx => e = .int .i64 (ask : Int) ∧ ∃ b, g = .pointer (some ⟨b, 0, none⟩) ∧ Hid (IsF (fun _ => True) wx pairN (.pointer (some ⟨b, 0, none⟩))) ∧ Hid (IsF (fun _ => True) wx xx (.pointer p)) ∧ Hid (Below w.heap.size w wx))
                case first =>
                  go_wp2_with fail
                  go_meet
                  exact ⟨HK4.out, _, rfl, HPM.out.1, HFY.out, HPX.out⟩
                case rest =>
                  obtain ⟨rfl, b, rfl, HPG, HFG, HBG⟩ := hcut
                  clear HK4 HPM HFY HPX HFX HAK
                  have HR1 := hide (Right_any xx _ wc HFG.out (HPT.out wc HBG.out))
                  have HBR : Hid (∀ W, Below w.heap.size w W → Calls Tryd.prog 8 #[errV (right xx), .int .i64 (ask : Int)] W fun x w' => x = .returned (.bool true) ∧ Below W.heap.size W w') := fun W hW => (bare_any (right xx) ask W (HDR.out W hW)).mono fun e w' h => ⟨h.1.trans (by rw [HRA.out]; simp), h.2⟩
                  have hx : (∃ t v, errV (right xx) = .iface t v) ∨ errV (right xx) = .nilIface := by
                    cases right xx with
                    | none => exact .inr rfl
                    | some k => exact .inl ⟨_, _, rfl⟩
                  generalize errV (right xx) = ev at *
                  have HRP : Hid (∀ W, Below wc.heap.size wc W → Calls Tryd.prog 15 #[.pointer (some ⟨b, 0, none⟩)] W fun e w' => e = .returned (.iface 30 (.int .i64 7)) ∧ Below W.heap.size W w') := fun W hW => (Right_any pairN _ W (HPG.out.below hW) (HPT.out W (then_ HBG.out hW))).mono fun e w' h => ⟨h.1.trans (by rw [HPR.out]; rfl), h.2⟩
                  have HRN : Hid (∀ W, Below w.heap.size w W → Calls Tryd.prog 15 #[.pointer none] W fun e w' => e = .returned (.iface 30 (.int .i64 7)) ∧ Below W.heap.size W w') := fun W hW => (Right_any nilF _ W (isF_nil.2 rfl) (HPT.out W hW)).mono fun e w' h => ⟨h.1.trans (by rw [right_nil]; rfl), h.2⟩
                  have HB7 : Hid (∀ W, Below w.heap.size w W → Calls Tryd.prog 8 #[.iface 30 (.int .i64 7), .int .i64 7] W fun x w' => x = .returned (.bool true) ∧ Below W.heap.size W w') := fun W hW => (bare_any (some 7) 7 W (HDR.out W hW)).mono fun e w' h => ⟨h.1.trans (by simp [num]), h.2⟩
                  clear HPG HFG HPR
                  rcases hx with ⟨tv, vv, rfl⟩ | rfl
                  all_goals
                    go_wp2_with fail
                    refine HR1.out.mono ?_
                    rintro e w5 ⟨rfl, hb5⟩
                    have HW5 := hide hb5
                    have HB5 := hide (then_ HBG.out hb5)
                    have HC5 := hide (HBR.out w5 HB5.out)
                    clear hb5 HR1 HBR
                    go_wp2_with fail
                    refine HC5.out.mono ?_
                    rintro e w6 ⟨rfl, hb6⟩
                    have HW6 := hide (then_ HW5.out hb6)
                    have HB6 := hide (then_ HB5.out hb6)
                    have HC6 := hide (HRP.out w6 HW6.out)
                    clear hb6 HC5 HRP
                    go_wp2_with fail
                    refine HC6.out.mono ?_
                    rintro e w7 ⟨rfl, hb7⟩
                    have HBB7 := hide (then_ HB6.out hb7)
                    have HC7 := hide (HB7.out w7 HBB7.out)
                    clear hb7 HC6
                    go_wp2_with fail
                    refine HC7.out.mono ?_
                    rintro e w8 ⟨rfl, hb8⟩
                    have HBB8 := hide (then_ HBB7.out hb8)
                    have HC8 := hide (HRN.out w8 HBB8.out)
                    clear hb8 HC7 HRN
                    go_wp2_with fail
                    refine HC8.out.mono ?_
                    rintro e w9 ⟨rfl, hb9⟩
                    have HBB9 := hide (then_ HBB8.out hb9)
                    have HC9 := hide (HB7.out w9 HBB9.out)
                    clear hb9 HC8 HB7
                    go_wp2_with fail
                    refine HC9.out.mono ?_
                    rintro e w10 ⟨rfl, hb10⟩
                    have HBB10 := hide (then_ HBB9.out hb10)
                    clear hb10 HC9
                    go_wp2_with fail
                    go_ret
                    exact ⟨rfl, HBB10.out⟩
              · have hAi : ¬ (20 : Int) < (i : Int) + 1 := by omega
                have hBi : ((ow : Int) == 0) = true := by simp [hB]
                have hCi : ¬ (0 : Int) < (j : Int) := by omega
                have HK4 : Hid (Value.int IntKind.i64 0 = .int .i64 (ask : Int)) := by show _ = _; rw [HAK.out, if_neg (by omega), hB]; rfl
                go_upto_region 22 with fail
                go_cut [14, 16] from 80 (fun e g wx => e = .int .i64 (ask : Int) ∧ ∃ b, g = .pointer (some ⟨b, 0, none⟩) ∧ Hid (IsF (fun _ => True) wx pairN (.pointer (some ⟨b, 0, none⟩))) ∧ Hid (IsF (fun _ => True) wx xx (.pointer p)) ∧ Hid (Below w.heap.size w wx))
                case first =>
                  go_wp2_with fail
                  go_meet
                  exact ⟨HK4.out, _, rfl, HPM.out.1, HFY.out, HPX.out⟩
                case rest =>
                  obtain ⟨rfl, b, rfl, HPG, HFG, HBG⟩ := hcut
                  clear HK4 HPM HFY HPX HFX HAK
                  have HR1 := hide (Right_any xx _ wc HFG.out (HPT.out wc HBG.out))
                  have HBR : Hid (∀ W, Below w.heap.size w W → Calls Tryd.prog 8 #[errV (right xx), .int .i64 (ask : Int)] W fun x w' => x = .returned (.bool true) ∧ Below W.heap.size W w') := fun W hW => (bare_any (right xx) ask W (HDR.out W hW)).mono fun e w' h => ⟨h.1.trans (by rw [HRA.out]; simp), h.2⟩
                  have hx : (∃ t v, errV (right xx) = .iface t v) ∨ errV (right xx) = .nilIface := by
                    cases right xx with
                    | none => exact .inr rfl
                    | some k => exact .inl ⟨_, _, rfl⟩
                  generalize errV (right xx) = ev at *
                  have HRP : Hid (∀ W, Below wc.heap.size wc W → Calls Tryd.prog 15 #[.pointer (some ⟨b, 0, none⟩)] W fun e w' => e = .returned (.iface 30 (.int .i64 7)) ∧ Below W.heap.size W w') := fun W hW => (Right_any pairN _ W (HPG.out.below hW) (HPT.out W (then_ HBG.out hW))).mono fun e w' h => ⟨h.1.trans (by rw [HPR.out]; rfl), h.2⟩
                  have HRN : Hid (∀ W, Below w.heap.size w W → Calls Tryd.prog 15 #[.pointer none] W fun e w' => e = .returned (.iface 30 (.int .i64 7)) ∧ Below W.heap.size W w') := fun W hW => (Right_any nilF _ W (isF_nil.2 rfl) (HPT.out W hW)).mono fun e w' h => ⟨h.1.trans (by rw [right_nil]; rfl), h.2⟩
                  have HB7 : Hid (∀ W, Below w.heap.size w W → Calls Tryd.prog 8 #[.iface 30 (.int .i64 7), .int .i64 7] W fun x w' => x = .returned (.bool true) ∧ Below W.heap.size W w') := fun W hW => (bare_any (some 7) 7 W (HDR.out W hW)).mono fun e w' h => ⟨h.1.trans (by simp [num]), h.2⟩
                  clear HPG HFG HPR
                  rcases hx with ⟨tv, vv, rfl⟩ | rfl
                  all_goals
                    go_wp2_with fail
                    refine HR1.out.mono ?_
                    rintro e w5 ⟨rfl, hb5⟩
                    have HW5 := hide hb5
                    have HB5 := hide (then_ HBG.out hb5)
                    have HC5 := hide (HBR.out w5 HB5.out)
                    clear hb5 HR1 HBR
                    go_wp2_with fail
                    refine HC5.out.mono ?_
                    rintro e w6 ⟨rfl, hb6⟩
                    have HW6 := hide (then_ HW5.out hb6)
                    have HB6 := hide (then_ HB5.out hb6)
                    have HC6 := hide (HRP.out w6 HW6.out)
                    clear hb6 HC5 HRP
                    go_wp2_with fail
                    refine HC6.out.mono ?_
                    rintro e w7 ⟨rfl, hb7⟩
                    have HBB7 := hide (then_ HB6.out hb7)
                    have HC7 := hide (HB7.out w7 HBB7.out)
                    clear hb7 HC6
                    go_wp2_with fail
                    refine HC7.out.mono ?_
                    rintro e w8 ⟨rfl, hb8⟩
                    have HBB8 := hide (then_ HBB7.out hb8)
                    have HC8 := hide (HRN.out w8 HBB8.out)
                    clear hb8 HC7 HRN
                    go_wp2_with fail
                    refine HC8.out.mono ?_
                    rintro e w9 ⟨rfl, hb9⟩
                    have HBB9 := hide (then_ HBB8.out hb9)
                    have HC9 := hide (HB7.out w9 HBB9.out)
                    clear hb9 HC8 HB7
                    go_wp2_with fail
                    refine HC9.out.mono ?_
                    rintro e w10 ⟨rfl, hb10⟩
                    have HBB10 := hide (then_ HBB9.out hb10)
                    clear hb10 HC9
                    go_wp2_with fail
                    go_ret
                    exact ⟨rfl, HBB10.out⟩
              · have hAi : ¬ (20 : Int) < (i : Int) + 1 := by omega
                have hBi : ((ow : Int) == 0) = false := by simp; omega
                have HK4 : Hid (Value.int IntKind.i64 (ow : Int) = .int .i64 (ask : Int)) := by show _ = _; rw [HAK.out, if_neg (by omega)]
                go_upto_region 22 with fail
                go_cut [14, 16] from 80 (fun e g wx => e = .int .i64 (ask : Int) ∧ ∃ b, g = .pointer (some ⟨b, 0, none⟩) ∧ Hid (IsF (fun _ => True) wx pairN (.pointer (some ⟨b, 0, none⟩))) ∧ Hid (IsF (fun _ => True) wx xx (.pointer p)) ∧ Hid (Below w.heap.size w wx))
                case first =>
                  go_wp2_with fail
                  go_meet
                  exact ⟨HK4.out, _, rfl, HPM.out.1, HFY.out, HPX.out⟩
                case rest =>
                  obtain ⟨rfl, b, rfl, HPG, HFG, HBG⟩ := hcut
                  clear HK4 HPM HFY HPX HFX HAK
                  have HR1 := hide (Right_any xx _ wc HFG.out (HPT.out wc HBG.out))
                  have HBR : Hid (∀ W, Below w.heap.size w W → Calls Tryd.prog 8 #[errV (right xx), .int .i64 (ask : Int)] W fun x w' => x = .returned (.bool true) ∧ Below W.heap.size W w') := fun W hW => (bare_any (right xx) ask W (HDR.out W hW)).mono fun e w' h => ⟨h.1.trans (by rw [HRA.out]; simp), h.2⟩
                  have hx : (∃ t v, errV (right xx) = .iface t v) ∨ errV (right xx) = .nilIface := by
                    cases right xx with
                    | none => exact .inr rfl
                    | some k => exact .inl ⟨_, _, rfl⟩
                  generalize errV (right xx) = ev at *
                  have HRP : Hid (∀ W, Below wc.heap.size wc W → Calls Tryd.prog 15 #[.pointer (some ⟨b, 0, none⟩)] W fun e w' => e = .returned (.iface 30 (.int .i64 7)) ∧ Below W.heap.size W w') := fun W hW => (Right_any pairN _ W (HPG.out.below hW) (HPT.out W (then_ HBG.out hW))).mono fun e w' h => ⟨h.1.trans (by rw [HPR.out]; rfl), h.2⟩
                  have HRN : Hid (∀ W, Below w.heap.size w W → Calls Tryd.prog 15 #[.pointer none] W fun e w' => e = .returned (.iface 30 (.int .i64 7)) ∧ Below W.heap.size W w') := fun W hW => (Right_any nilF _ W (isF_nil.2 rfl) (HPT.out W hW)).mono fun e w' h => ⟨h.1.trans (by rw [right_nil]; rfl), h.2⟩
                  have HB7 : Hid (∀ W, Below w.heap.size w W → Calls Tryd.prog 8 #[.iface 30 (.int .i64 7), .int .i64 7] W fun x w' => x = .returned (.bool true) ∧ Below W.heap.size W w') := fun W hW => (bare_any (some 7) 7 W (HDR.out W hW)).mono fun e w' h => ⟨h.1.trans (by simp [num]), h.2⟩
                  clear HPG HFG HPR
                  rcases hx with ⟨tv, vv, rfl⟩ | rfl
                  all_goals
                    go_wp2_with fail
                    refine HR1.out.mono ?_
                    rintro e w5 ⟨rfl, hb5⟩
                    have HW5 := hide hb5
                    have HB5 := hide (then_ HBG.out hb5)
                    have HC5 := hide (HBR.out w5 HB5.out)
                    clear hb5 HR1 HBR
                    go_wp2_with fail
                    refine HC5.out.mono ?_
                    rintro e w6 ⟨rfl, hb6⟩
                    have HW6 := hide (then_ HW5.out hb6)
                    have HB6 := hide (then_ HB5.out hb6)
                    have HC6 := hide (HRP.out w6 HW6.out)
                    clear hb6 HC5 HRP
                    go_wp2_with fail
                    refine HC6.out.mono ?_
                    rintro e w7 ⟨rfl, hb7⟩
                    have HBB7 := hide (then_ HB6.out hb7)
                    have HC7 := hide (HB7.out w7 HBB7.out)
                    clear hb7 HC6
                    go_wp2_with fail
                    refine HC7.out.mono ?_
                    rintro e w8 ⟨rfl, hb8⟩
                    have HBB8 := hide (then_ HBB7.out hb8)
                    have HC8 := hide (HRN.out w8 HBB8.out)
                    clear hb8 HC7 HRN
                    go_wp2_with fail
                    refine HC8.out.mono ?_
                    rintro e w9 ⟨rfl, hb9⟩
                    have HBB9 := hide (then_ HBB8.out hb9)
                    have HC9 := hide (HB7.out w9 HBB9.out)
                    clear hb9 HC8 HB7
                    go_wp2_with fail
                    refine HC9.out.mono ?_
                    rintro e w10 ⟨rfl, hb10⟩
                    have HBB10 := hide (then_ HBB9.out hb10)
                    clear hb10 HC9
                    go_wp2_with fail
                    go_ret
                    exact ⟨rfl, HBB10.out⟩
      · have HE : Hid (Value.int IntKind.i64 1 = .int .i64 (ow : Int)) := by show _ = _; rw [HO.out]; rfl
        have hnji : ¬ (n0 : Int) = (j : Int) := by omega
        have hnjb : ((n0 : Int) != (j : Int)) = true := by simp; omega
        go_upto_region 16 with fail
        go_cut [14, 15] from 48 (fun e z wx => e = .int .i64 (ow : Int) ∧ z = .int .i64 0 ∧ Hid (wx = W10))
        case first =>
          go_wp2_with fail
          go_meet
          exact ⟨HE.out, rfl, rfl⟩
        case rest =>
          obtain ⟨rfl, rfl, hwc⟩ := hcut
          have hwc' := hwc.out
          subst hwc'
          clear hwc HE HO
          go_wp2_with fail
          go_loopw [15, 9] (fun iv fv wx => ∃ (i : Nat) (p : Option Addr), i ≤ d ∧ iv = .int .i64 (i : Int) ∧ fv = .pointer p ∧ Hid (IsF (fun _ => True) wx (nots i (root k nm j)) (.pointer p)) ∧ Hid (Below w.heap.size w wx)) (fun iv _ _ => d - (intOf iv).toNat)
          case atStart => exact ⟨0, _, Nat.zero_le _, rfl, rfl, HF10.out, HB10.out⟩
          case round =>
            obtain ⟨i, p, hi, rfl, rfl, HFX, HBX⟩ := hrel
            by_cases hlt : i < d
            · have hii : (i : Int) < (d : Int) := by omega
              have HWR := hide (wrapped HFX.out)
              go_wp2_with fail
              go_roundw
              case rel => exact ⟨i + 1, _, by omega, by go_num, rfl, HWR.out.1, then_ HBX.out HWR.out.2⟩
              case measure => simp [intOf]; omega
            · have hid : i = d := by omega
              subst hid
              have hii : ¬ (i : Int) < (i : Int) := by omega
              have HPM := hide (pair_made wr)
              obtain ⟨ask, hask⟩ : ∃ ask, ask = askN k nm j i := ⟨_, rfl⟩
              have HAK : Hid (ask = if 20 < i + 1 ∨ (ow = 0 ∧ 0 < j ∧ 20 < i + 2) then 4 else ow) := by show _ = _; rw [hask, HOW.out]; rfl
              have HRA : Hid (num (right (nots i (root k nm j))) = ask) := HNR.out.trans hask.symm
              have HPR : Hid (right pairN = some 7) := right_pair
              have HPX : Hid (Below w.heap.size w (((wr.alloc (.cells #[.int .i64 2, .string ⟨#[]⟩, .slice none 0 0] 54)).alloc (.cells #[.pointer (some ⟨wr.heap.size, 0, none⟩), .pointer none] 40)).alloc (.cells #[.int .i64 4, .string ⟨#[]⟩, .slice (some ⟨wr.heap.size + 1, 0, none⟩) 2 2] 54))) := then_ HBX.out HPM.out.2
              have HFY := hide (HFX.out.below HPM.out.2)
              clear hask HNR
              have hlo : ow ≤ 9 := by
                have := HLO.out
                exact this
              generalize nots i (root k nm j) = xx at *
              have hfive : (20 < i + 1) ∨ (¬ 20 < i + 1 ∧ ow = 0 ∧ 0 < j ∧ 20 < i + 2) ∨ (¬ 20 < i + 1 ∧ ow = 0 ∧ 0 < j ∧ ¬ 20 < i + 2) ∨ (¬ 20 < i + 1 ∧ ow = 0 ∧ ¬ 0 < j) ∨ (¬ 20 < i + 1 ∧ ow ≠ 0) := by omega
              rcases hfive with hA | ⟨hA, hB, hC, hE⟩ | ⟨hA, hB, hC, hE⟩ | ⟨hA, hB, hC⟩ | ⟨hA, hB⟩
              · have hAi : (20 : Int) < (i : Int) + 1 := by omega
                have HK4 : Hid (Value.int IntKind.i64 4 = .int .i64 (ask : Int)) := by show _ = _; rw [HAK.out, if_pos (.inl hA)]; rfl
                go_upto_region 22 with fail
                go_cut [14, 16] from 80 (fun e g wx => e = .int .i64 (ask : Int) ∧ ∃ b, g = .pointer (some ⟨b, 0, none⟩) ∧ Hid (IsF (fun _ => True) wx pairN (.pointer (some ⟨b, 0, none⟩))) ∧ Hid (IsF (fun _ => True) wx xx (.pointer p)) ∧ Hid (Below w.heap.size w wx))
                case first =>
                  go_wp2_with fail
                  go_meet
                  exact ⟨HK4.out, _, rfl, HPM.out.1, HFY.out, HPX.out⟩
                case rest =>
                  obtain ⟨rfl, b, rfl, HPG, HFG, HBG⟩ := hcut
                  clear HK4 HPM HFY HPX HFX HAK
                  have HR1 := hide (Right_any xx _ wc HFG.out (HPT.out wc HBG.out))
                  have HBR : Hid (∀ W, Below w.heap.size w W → Calls Tryd.prog 8 #[errV (right xx), .int .i64 (ask : Int)] W fun x w' => x = .returned (.bool true) ∧ Below W.heap.size W w') := fun W hW => (bare_any (right xx) ask W (HDR.out W hW)).mono fun e w' h => ⟨h.1.trans (by rw [HRA.out]; simp), h.2⟩
                  have hx : (∃ t v, errV (right xx) = .iface t v) ∨ errV (right xx) = .nilIface := by
                    cases right xx with
                    | none => exact .inr rfl
                    | some k => exact .inl ⟨_, _, rfl⟩
                  generalize errV (right xx) = ev at *
                  have HRP : Hid (∀ W, Below wc.heap.size wc W → Calls Tryd.prog 15 #[.pointer (some ⟨b, 0, none⟩)] W fun e w' => e = .returned (.iface 30 (.int .i64 7)) ∧ Below W.heap.size W w') := fun W hW => (Right_any pairN _ W (HPG.out.below hW) (HPT.out W (then_ HBG.out hW))).mono fun e w' h => ⟨h.1.trans (by rw [HPR.out]; rfl), h.2⟩
                  have HRN : Hid (∀ W, Below w.heap.size w W → Calls Tryd.prog 15 #[.pointer none] W fun e w' => e = .returned (.iface 30 (.int .i64 7)) ∧ Below W.heap.size W w') := fun W hW => (Right_any nilF _ W (isF_nil.2 rfl) (HPT.out W hW)).mono fun e w' h => ⟨h.1.trans (by rw [right_nil]; rfl), h.2⟩
                  have HB7 : Hid (∀ W, Below w.heap.size w W → Calls Tryd.prog 8 #[.iface 30 (.int .i64 7), .int .i64 7] W fun x w' => x = .returned (.bool true) ∧ Below W.heap.size W w') := fun W hW => (bare_any (some 7) 7 W (HDR.out W hW)).mono fun e w' h => ⟨h.1.trans (by simp [num]), h.2⟩
                  clear HPG HFG HPR
                  rcases hx with ⟨tv, vv, rfl⟩ | rfl
                  all_goals
                    go_wp2_with fail
                    refine HR1.out.mono ?_
                    rintro e w5 ⟨rfl, hb5⟩
                    have HW5 := hide hb5
                    have HB5 := hide (then_ HBG.out hb5)
                    have HC5 := hide (HBR.out w5 HB5.out)
                    clear hb5 HR1 HBR
                    go_wp2_with fail
                    refine HC5.out.mono ?_
                    rintro e w6 ⟨rfl, hb6⟩
                    have HW6 := hide (then_ HW5.out hb6)
                    have HB6 := hide (then_ HB5.out hb6)
                    have HC6 := hide (HRP.out w6 HW6.out)
                    clear hb6 HC5 HRP
                    go_wp2_with fail
                    refine HC6.out.mono ?_
                    rintro e w7 ⟨rfl, hb7⟩
                    have HBB7 := hide (then_ HB6.out hb7)
                    have HC7 := hide (HB7.out w7 HBB7.out)
                    clear hb7 HC6
                    go_wp2_with fail
                    refine HC7.out.mono ?_
                    rintro e w8 ⟨rfl, hb8⟩
                    have HBB8 := hide (then_ HBB7.out hb8)
                    have HC8 := hide (HRN.out w8 HBB8.out)
                    clear hb8 HC7 HRN
                    go_wp2_with fail
                    refine HC8.out.mono ?_
                    rintro e w9 ⟨rfl, hb9⟩
                    have HBB9 := hide (then_ HBB8.out hb9)
                    have HC9 := hide (HB7.out w9 HBB9.out)
                    clear hb9 HC8 HB7
                    go_wp2_with fail
                    refine HC9.out.mono ?_
                    rintro e w10 ⟨rfl, hb10⟩
                    have HBB10 := hide (then_ HBB9.out hb10)
                    clear hb10 HC9
                    go_wp2_with fail
                    go_ret
                    exact ⟨rfl, HBB10.out⟩
              · have hAi : ¬ (20 : Int) < (i : Int) + 1 := by omega
                have hBi : ((ow : Int) == 0) = true := by simp [hB]
                have hCi : (0 : Int) < (j : Int) := by omega
                have hEi : (20 : Int) < (i : Int) + 2 := by omega
                have HK4 : Hid (Value.int IntKind.i64 4 = .int .i64 (ask : Int)) := by show _ = _; rw [HAK.out, if_pos (.inr ⟨hB, hC, hE⟩)]; rfl
                go_upto_region 22 with fail
                go_cut [14, 16] from 80 (fun e g wx => e = .int .i64 (ask : Int) ∧ ∃ b, g = .pointer (some ⟨b, 0, none⟩) ∧ Hid (IsF (fun _ => True) wx pairN (.pointer (some ⟨b, 0, none⟩))) ∧ Hid (IsF (fun _ => True) wx xx (.pointer p)) ∧ Hid (Below w.heap.size w wx))
                case first =>
                  go_wp2_with fail
                  go_meet
                  exact ⟨HK4.out, _, rfl, HPM.out.1, HFY.out, HPX.out⟩
                case rest =>
                  obtain ⟨rfl, b, rfl, HPG, HFG, HBG⟩ := hcut
                  clear HK4 HPM HFY HPX HFX HAK
                  have HR1 := hide (Right_any xx _ wc HFG.out (HPT.out wc HBG.out))
                  have HBR : Hid (∀ W, Below w.heap.size w W → Calls Tryd.prog 8 #[errV (right xx), .int .i64 (ask : Int)] W fun x w' => x = .returned (.bool true) ∧ Below W.heap.size W w') := fun W hW => (bare_any (right xx) ask W (HDR.out W hW)).mono fun e w' h => ⟨h.1.trans (by rw [HRA.out]; simp), h.2⟩
                  have hx : (∃ t v, errV (right xx) = .iface t v) ∨ errV (right xx) = .nilIface := by
                    cases right xx with
                    | none => exact .inr rfl
                    | some k => exact .inl ⟨_, _, rfl⟩
                  generalize errV (right xx) = ev at *
                  have HRP : Hid (∀ W, Below wc.heap.size wc W → Calls Tryd.prog 15 #[.pointer (some ⟨b, 0, none⟩)] W fun e w' => e = .returned (.iface 30 (.int .i64 7)) ∧ Below W.heap.size W w') := fun W hW => (Right_any pairN _ W (HPG.out.below hW) (HPT.out W (then_ HBG.out hW))).mono fun e w' h => ⟨h.1.trans (by rw [HPR.out]; rfl), h.2⟩
                  have HRN : Hid (∀ W, Below w.heap.size w W → Calls Tryd.prog 15 #[.pointer none] W fun e w' => e = .returned (.iface 30 (.int .i64 7)) ∧ Below W.heap.size W w') := fun W hW => (Right_any nilF _ W (isF_nil.2 rfl) (HPT.out W hW)).mono fun e w' h => ⟨h.1.trans (by rw [right_nil]; rfl), h.2⟩
                  have HB7 : Hid (∀ W, Below w.heap.size w W → Calls Tryd.prog 8 #[.iface 30 (.int .i64 7), .int .i64 7] W fun x w' => x = .returned (.bool true) ∧ Below W.heap.size W w') := fun W hW => (bare_any (some 7) 7 W (HDR.out W hW)).mono fun e w' h => ⟨h.1.trans (by simp [num]), h.2⟩
                  clear HPG HFG HPR
                  rcases hx with ⟨tv, vv, rfl⟩ | rfl
                  all_goals
                    go_wp2_with fail
                    refine HR1.out.mono ?_
                    rintro e w5 ⟨rfl, hb5⟩
                    have HW5 := hide hb5
                    have HB5 := hide (then_ HBG.out hb5)
                    have HC5 := hide (HBR.out w5 HB5.out)
                    clear hb5 HR1 HBR
                    go_wp2_with fail
                    refine HC5.out.mono ?_
                    rintro e w6 ⟨rfl, hb6⟩
                    have HW6 := hide (then_ HW5.out hb6)
                    have HB6 := hide (then_ HB5.out hb6)
                    have HC6 := hide (HRP.out w6 HW6.out)
                    clear hb6 HC5 HRP
                    go_wp2_with fail
                    refine HC6.out.mono ?_
                    rintro e w7 ⟨rfl, hb7⟩
                    have HBB7 := hide (then_ HB6.out hb7)
                    have HC7 := hide (HB7.out w7 HBB7.out)
                    clear hb7 HC6
                    go_wp2_with fail
                    refine HC7.out.mono ?_
                    rintro e w8 ⟨rfl, hb8⟩
                    have HBB8 := hide (then_ HBB7.out hb8)
                    have HC8 := hide (HRN.out w8 HBB8.out)
                    clear hb8 HC7 HRN
                    go_wp2_with fail
                    refine HC8.out.mono ?_
                    rintro e w9 ⟨rfl, hb9⟩
                    have HBB9 := hide (then_ HBB8.out hb9)
                    have HC9 := hide (HB7.out w9 HBB9.out)
                    clear hb9 HC8 HB7
                    go_wp2_with fail
                    refine HC9.out.mono ?_
                    rintro e w10 ⟨rfl, hb10⟩
                    have HBB10 := hide (then_ HBB9.out hb10)
                    clear hb10 HC9
                    go_wp2_with fail
                    go_ret
                    exact ⟨rfl, HBB10.out⟩
              · have hAi : ¬ (20 : Int) < (i : Int) + 1 := by omega
                have hBi : ((ow : Int) == 0) = true := by simp [hB]
                have hCi : (0 : Int) < (j : Int) := by omega
                have hEi : ¬ (20 : Int) < (i : Int) + 2 := by omega
                have HK4 : Hid (Value.int IntKind.i64 0 = .int .i64 (ask : Int)) := by show _ = _; rw [HAK.out, if_neg (by omega), hB]; rfl
                go_upto_region 22 with fail
                go_cut [14, 16] from 80 (fun e g wx => e = .int .i64 (ask : Int) ∧ ∃ b, g = .pointer (some ⟨b, 0, none⟩) ∧ Hid (IsF (fun _ => True) wx pairN (.pointer (some ⟨b, 0, none⟩))) ∧ Hid (IsF (fun _ => True) wx xx (.pointer p)) ∧ Hid (Below w.heap.size w wx))
                case first =>
                  go_wp2_with fail
                  go_meet
                  exact ⟨HK4.out, _, rfl, HPM.out.1, HFY.out, HPX.out⟩
                case rest =>
                  obtain ⟨rfl, b, rfl, HPG, HFG, HBG⟩ := hcut
                  clear HK4 HPM HFY HPX HFX HAK
                  have HR1 := hide (Right_any xx _ wc HFG.out (HPT.out wc HBG.out))
                  have HBR : Hid (∀ W, Below w.heap.size w W → Calls Tryd.prog 8 #[errV (right xx), .int .i64 (ask : Int)] W fun x w' => x = .returned (.bool true) ∧ Below W.heap.size W w') := fun W hW => (bare_any (right xx) ask W (HDR.out W hW)).mono fun e w' h => ⟨h.1.trans (by rw [HRA.out]; simp), h.2⟩
                  have hx : (∃ t v, errV (right xx) = .iface t v) ∨ errV (right xx) = .nilIface := by
                    cases right xx with
                    | none => exact .inr rfl
                    | some k => exact .inl ⟨_, _, rfl⟩
                  generalize errV (right xx) = ev at *
                  have HRP : Hid (∀ W, Below wc.heap.size wc W → Calls Tryd.prog 15 #[.pointer (some ⟨b, 0, none⟩)] W fun e w' => e = .returned (.iface 30 (.int .i64 7)) ∧ Below W.heap.size W w') := fun W hW => (Right_any pairN _ W (HPG.out.below hW) (HPT.out W (then_ HBG.out hW))).mono fun e w' h => ⟨h.1.trans (by rw [HPR.out]; rfl), h.2⟩
                  have HRN : Hid (∀ W, Below w.heap.size w W → Calls Tryd.prog 15 #[.pointer none] W fun e w' => e = .returned (.iface 30 (.int .i64 7)) ∧ Below W.heap.size W w') := fun W hW => (Right_any nilF _ W (isF_nil.2 rfl) (HPT.out W hW)).mono fun e w' h => ⟨h.1.trans (by rw [right_nil]; rfl), h.2⟩
                  have HB7 : Hid (∀ W, Below w.heap.size w W → Calls Tryd.prog 8 #[.iface 30 (.int .i64 7), .int .i64 7] W fun x w' => x = .returned (.bool true) ∧ Below W.heap.size W w') := fun W hW => (bare_any (some 7) 7 W (HDR.out W hW)).mono fun e w' h => ⟨h.1.trans (by simp [num]), h.2⟩
                  clear HPG HFG HPR
                  rcases hx with ⟨tv, vv, rfl⟩ | rfl
                  all_goals
                    go_wp2_with fail
                    refine HR1.out.mono ?_
                    rintro e w5 ⟨rfl, hb5⟩
                    have HW5 := hide hb5
                    have HB5 := hide (then_ HBG.out hb5)
                    have HC5 := hide (HBR.out w5 HB5.out)
                    clear hb5 HR1 HBR
                    go_wp2_with fail
                    refine HC5.out.mono ?_
                    rintro e w6 ⟨rfl, hb6⟩
                    have HW6 := hide (then_ HW5.out hb6)
                    have HB6 := hide (then_ HB5.out hb6)
                    have HC6 := hide (HRP.out w6 HW6.out)
                    clear hb6 HC5 HRP
                    go_wp2_with fail
                    refine HC6.out.mono ?_
                    rintro e w7 ⟨rfl, hb7⟩
                    have HBB7 := hide (then_ HB6.out hb7)
                    have HC7 := hide (HB7.out w7 HBB7.out)
                    clear hb7 HC6
                    go_wp2_with fail
                    refine HC7.out.mono ?_
                    rintro e w8 ⟨rfl, hb8⟩
                    have HBB8 := hide (then_ HBB7.out hb8)
                    have HC8 := hide (HRN.out w8 HBB8.out)
                    clear hb8 HC7 HRN
                    go_wp2_with fail
                    refine HC8.out.mono ?_
                    rintro e w9 ⟨rfl, hb9⟩
                    have HBB9 := hide (then_ HBB8.out hb9)
                    have HC9 := hide (HB7.out w9 HBB9.out)
                    clear hb9 HC8 HB7
                    go_wp2_with fail
                    refine HC9.out.mono ?_
                    rintro e w10 ⟨rfl, hb10⟩
                    have HBB10 := hide (then_ HBB9.out hb10)
                    clear hb10 HC9
                    go_wp2_with fail
                    go_ret
                    exact ⟨rfl, HBB10.out⟩
              · have hAi : ¬ (20 : Int) < (i : Int) + 1 := by omega
                have hBi : ((ow : Int) == 0) = true := by simp [hB]
                have hCi : ¬ (0 : Int) < (j : Int) := by omega
                have HK4 : Hid (Value.int IntKind.i64 0 = .int .i64 (ask : Int)) := by show _ = _; rw [HAK.out, if_neg (by omega), hB]; rfl
                go_upto_region 22 with fail
                go_cut [14, 16] from 80 (fun e g wx => e = .int .i64 (ask : Int) ∧ ∃ b, g = .pointer (some ⟨b, 0, none⟩) ∧ Hid (IsF (fun _ => True) wx pairN (.pointer (some ⟨b, 0, none⟩))) ∧ Hid (IsF (fun _ => True) wx xx (.pointer p)) ∧ Hid (Below w.heap.size w wx))
                case first =>
                  go_wp2_with fail
                  go_meet
                  exact ⟨HK4.out, _, rfl, HPM.out.1, HFY.out, HPX.out⟩
                case rest =>
                  obtain ⟨rfl, b, rfl, HPG, HFG, HBG⟩ := hcut
                  clear HK4 HPM HFY HPX HFX HAK
                  have HR1 := hide (Right_any xx _ wc HFG.out (HPT.out wc HBG.out))
                  have HBR : Hid (∀ W, Below w.heap.size w W → Calls Tryd.prog 8 #[errV (right xx), .int .i64 (ask : Int)] W fun x w' => x = .returned (.bool true) ∧ Below W.heap.size W w') := fun W hW => (bare_any (right xx) ask W (HDR.out W hW)).mono fun e w' h => ⟨h.1.trans (by rw [HRA.out]; simp), h.2⟩
                  have hx : (∃ t v, errV (right xx) = .iface t v) ∨ errV (right xx) = .nilIface := by
                    cases right xx with
                    | none => exact .inr rfl
                    | some k => exact .inl ⟨_, _, rfl⟩
                  generalize errV (right xx) = ev at *
                  have HRP : Hid (∀ W, Below wc.heap.size wc W → Calls Tryd.prog 15 #[.pointer (some ⟨b, 0, none⟩)] W fun e w' => e = .returned (.iface 30 (.int .i64 7)) ∧ Below W.heap.size W w') := fun W hW => (Right_any pairN _ W (HPG.out.below hW) (HPT.out W (then_ HBG.out hW))).mono fun e w' h => ⟨h.1.trans (by rw [HPR.out]; rfl), h.2⟩
                  have HRN : Hid (∀ W, Below w.heap.size w W → Calls Tryd.prog 15 #[.pointer none] W fun e w' => e = .returned (.iface 30 (.int .i64 7)) ∧ Below W.heap.size W w') := fun W hW => (Right_any nilF _ W (isF_nil.2 rfl) (HPT.out W hW)).mono fun e w' h => ⟨h.1.trans (by rw [right_nil]; rfl), h.2⟩
                  have HB7 : Hid (∀ W, Below w.heap.size w W → Calls Tryd.prog 8 #[.iface 30 (.int .i64 7), .int .i64 7] W fun x w' => x = .returned (.bool true) ∧ Below W.heap.size W w') := fun W hW => (bare_any (some 7) 7 W (HDR.out W hW)).mono fun e w' h => ⟨h.1.trans (by simp [num]), h.2⟩
                  clear HPG HFG HPR
                  rcases hx with ⟨tv, vv, rfl⟩ | rfl
                  all_goals
                    go_wp2_with fail
                    refine HR1.out.mono ?_
                    rintro e w5 ⟨rfl, hb5⟩
                    have HW5 := hide hb5
                    have HB5 := hide (then_ HBG.out hb5)
                    have HC5 := hide (HBR.out w5 HB5.out)
                    clear hb5 HR1 HBR
                    go_wp2_with fail
                    refine HC5.out.mono ?_
                    rintro e w6 ⟨rfl, hb6⟩
                    have HW6 := hide (then_ HW5.out hb6)
                    have HB6 := hide (then_ HB5.out hb6)
                    have HC6 := hide (HRP.out w6 HW6.out)
                    clear hb6 HC5 HRP
                    go_wp2_with fail
                    refine HC6.out.mono ?_
                    rintro e w7 ⟨rfl, hb7⟩
                    have HBB7 := hide (then_ HB6.out hb7)
                    have HC7 := hide (HB7.out w7 HBB7.out)
                    clear hb7 HC6
                    go_wp2_with fail
                    refine HC7.out.mono ?_
                    rintro e w8 ⟨rfl, hb8⟩
                    have HBB8 := hide (then_ HBB7.out hb8)
                    have HC8 := hide (HRN.out w8 HBB8.out)
                    clear hb8 HC7 HRN
                    go_wp2_with fail
                    refine HC8.out.mono ?_
                    rintro e w9 ⟨rfl, hb9⟩
                    have HBB9 := hide (then_ HBB8.out hb9)
                    have HC9 := hide (HB7.out w9 HBB9.out)
                    clear hb9 HC8 HB7
                    go_wp2_with fail
                    refine HC9.out.mono ?_
                    rintro e w10 ⟨rfl, hb10⟩
                    have HBB10 := hide (then_ HBB9.out hb10)
                    clear hb10 HC9
                    go_wp2_with fail
                    go_ret
                    exact ⟨rfl, HBB10.out⟩
              · have hAi : ¬ (20 : Int) < (i : Int) + 1 := by omega
                have hBi : ((ow : Int) == 0) = false := by simp; omega
                have HK4 : Hid (Value.int IntKind.i64 (ow : Int) = .int .i64 (ask : Int)) := by show _ = _; rw [HAK.out, if_neg (by omega)]
                go_upto_region 22 with fail
                go_cut [14, 16] from 80 (fun e g wx => e = .int .i64 (ask : Int) ∧ ∃ b, g = .pointer (some ⟨b, 0, none⟩) ∧ Hid (IsF (fun _ => True) wx pairN (.pointer (some ⟨b, 0, none⟩))) ∧ Hid (IsF (fun _ => True) wx xx (.pointer p)) ∧ Hid (Below w.heap.size w wx))
                case first =>
                  go_wp2_with fail
                  go_meet
                  exact ⟨HK4.out, _, rfl, HPM.out.1, HFY.out, HPX.out⟩
                case rest =>
                  obtain ⟨rfl, b, rfl, HPG, HFG, HBG⟩ := hcut
                  clear HK4 HPM HFY HPX HFX HAK
                  have HR1 := hide (Right_any xx _ wc HFG.out (HPT.out wc HBG.out))
                  have HBR : Hid (∀ W, Below w.heap.size w W → Calls Tryd.prog 8 #[errV (right xx), .int .i64 (ask : Int)] W fun x w' => x = .returned (.bool true) ∧ Below W.heap.size W w') := fun W hW => (bare_any (right xx) ask W (HDR.out W hW)).mono fun e w' h => ⟨h.1.trans (by rw [HRA.out]; simp), h.2⟩
                  have hx : (∃ t v, errV (right xx) = .iface t v) ∨ errV (right xx) = .nilIface := by
                    cases right xx with
                    | none => exact .inr rfl
                    | some k => exact .inl ⟨_, _, rfl⟩
                  generalize errV (right xx) = ev at *
                  have HRP : Hid (∀ W, Below wc.heap.size wc W → Calls Tryd.prog 15 #[.pointer (some ⟨b, 0, none⟩)] W fun e w' => e = .returned (.iface 30 (.int .i64 7)) ∧ Below W.heap.size W w') := fun W hW => (Right_any pairN _ W (HPG.out.below hW) (HPT.out W (then_ HBG.out hW))).mono fun e w' h => ⟨h.1.trans (by rw [HPR.out]; rfl), h.2⟩
                  have HRN : Hid (∀ W, Below w.heap.size w W → Calls Tryd.prog 15 #[.pointer none] W fun e w' => e = .returned (.iface 30 (.int .i64 7)) ∧ Below W.heap.size W w') := fun W hW => (Right_any nilF _ W (isF_nil.2 rfl) (HPT.out W hW)).mono fun e w' h => ⟨h.1.trans (by rw [right_nil]; rfl), h.2⟩
                  have HB7 : Hid (∀ W, Below w.heap.size w W → Calls Tryd.prog 8 #[.iface 30 (.int .i64 7), .int .i64 7] W fun x w' => x = .returned (.bool true) ∧ Below W.heap.size W w') := fun W hW => (bare_any (some 7) 7 W (HDR.out W hW)).mono fun e w' h => ⟨h.1.trans (by simp [num]), h.2⟩
                  clear HPG HFG HPR
                  rcases hx with ⟨tv, vv, rfl⟩ | rfl
                  all_goals
                    go_wp2_with fail
                    refine HR1.out.mono ?_
                    rintro e w5 ⟨rfl, hb5⟩
                    have HW5 := hide hb5
                    have HB5 := hide (then_ HBG.out hb5)
                    have HC5 := hide (HBR.out w5 HB5.out)
                    clear hb5 HR1 HBR
                    go_wp2_with fail
                    refine HC5.out.mono ?_
                    rintro e w6 ⟨rfl, hb6⟩
                    have HW6 := hide (then_ HW5.out hb6)
                    have HB6 := hide (then_ HB5.out hb6)
                    have HC6 := hide (HRP.out w6 HW6.out)
                    clear hb6 HC5 HRP
                    go_wp2_with fail
                    refine HC6.out.mono ?_
                    rintro e w7 ⟨rfl, hb7⟩
                    have HBB7 := hide (then_ HB6.out hb7)
                    have HC7 := hide (HB7.out w7 HBB7.out)
                    clear hb7 HC6
                    go_wp2_with fail
                    refine HC7.out.mono ?_
                    rintro e w8 ⟨rfl, hb8⟩
                    have HBB8 := hide (then_ HBB7.out hb8)
                    have HC8 := hide (HRN.out w8 HBB8.out)
                    clear hb8 HC7 HRN
                    go_wp2_with fail
                    refine HC8.out.mono ?_
                    rintro e w9 ⟨rfl, hb9⟩
                    have HBB9 := hide (then_ HBB8.out hb9)
                    have HC9 := hide (HB7.out w9 HBB9.out)
                    clear hb9 HC8 HB7
                    go_wp2_with fail
                    refine HC9.out.mono ?_
                    rintro e w10 ⟨rfl, hb10⟩
                    have HBB10 := hide (then_ HBB9.out hb10)
                    clear hb10 HC9
                    go_wp2_with fail
                    go_ret
                    exact ⟨rfl, HBB10.out⟩
      · have HE : Hid (Value.int IntKind.i64 1 = .int .i64 (ow : Int)) := by show _ = _; rw [HO.out]; rfl
        have hk1b : (k != 1) = true := by simp [hk1]
        have hemp : nm.isEmpty = false := by
          cases nm with
          | nil => exact absurd rfl hn0
          | cons a r => rfl
        go_upto_region 16 with fail
        go_cut [14, 15] from 48 (fun e z wx => e = .int .i64 (ow : Int) ∧ z = .int .i64 0 ∧ Hid (wx = W10))
        case first =>
          go_wp2_with fail
          go_meet
          exact ⟨HE.out, rfl, rfl⟩
        case rest =>
          obtain ⟨rfl, rfl, hwc⟩ := hcut
          have hwc' := hwc.out
          subst hwc'
          clear hwc HE HO
          go_wp2_with fail
          go_loopw [15, 9] (fun iv fv wx => ∃ (i : Nat) (p : Option Addr), i ≤ d ∧ iv = .int .i64 (i : Int) ∧ fv = .pointer p ∧ Hid (IsF (fun _ => True) wx (nots i (root k nm j)) (.pointer p)) ∧ Hid (Below w.heap.size w wx)) (fun iv _ _ => d - (intOf iv).toNat)
          case atStart => exact ⟨0, _, Nat.zero_le _, rfl, rfl, HF10.out, HB10.out⟩
          case round =>
            obtain ⟨i, p, hi, rfl, rfl, HFX, HBX⟩ := hrel
            by_cases hlt : i < d
            · have hii : (i : Int) < (d : Int) := by omega
              have HWR := hide (wrapped HFX.out)
              go_wp2_with fail
              go_roundw
              case rel => exact ⟨i + 1, _, by omega, by go_num, rfl, HWR.out.1, then_ HBX.out HWR.out.2⟩
              case measure => simp [intOf]; omega
            · have hid : i = d := by omega
              subst hid
              have hii : ¬ (i : Int) < (i : Int) := by omega
              have HPM := hide (pair_made wr)
              obtain ⟨ask, hask⟩ : ∃ ask, ask = askN k nm j i := ⟨_, rfl⟩
              have HAK : Hid (ask = if 20 < i + 1 ∨ (ow = 0 ∧ 0 < j ∧ 20 < i + 2) then 4 else ow) := by show _ = _; rw [hask, HOW.out]; rfl
              have HRA : Hid (num (right (nots i (root k nm j))) = ask) := HNR.out.trans hask.symm
              have HPR : Hid (right pairN = some 7) := right_pair
              have HPX : Hid (Below w.heap.size w (((wr.alloc (.cells #[.int .i64 2, .string ⟨#[]⟩, .slice none 0 0] 54)).alloc (.cells #[.pointer (some ⟨wr.heap.size, 0, none⟩), .pointer none] 40)).alloc (.cells #[.int .i64 4, .string ⟨#[]⟩, .slice (some ⟨wr.heap.size + 1, 0, none⟩) 2 2] 54))) := then_ HBX.out HPM.out.2
              have HFY := hide (HFX.out.below HPM.out.2)
              clear hask HNR
              have hlo : ow ≤ 9 := by
                have := HLO.out
                exact this
              generalize nots i (root k nm j) = xx at *
              have hfive : (20 < i + 1) ∨ (¬ 20 < i + 1 ∧ ow = 0 ∧ 0 < j ∧ 20 < i + 2) ∨ (¬ 20 < i + 1 ∧ ow = 0 ∧ 0 < j ∧ ¬ 20 < i + 2) ∨ (¬ 20 < i + 1 ∧ ow = 0 ∧ ¬ 0 < j) ∨ (¬ 20 < i + 1 ∧ ow ≠ 0) := by omega
              rcases hfive with hA | ⟨hA, hB, hC, hE⟩ | ⟨hA, hB, hC, hE⟩ | ⟨hA, hB, hC⟩ | ⟨hA, hB⟩
              · have hAi : (20 : Int) < (i : Int) + 1 := by omega
                have HK4 : Hid (Value.int IntKind.i64 4 = .int .i64 (ask : Int)) := by show _ = _; rw [HAK.out, if_pos (.inl hA)]; rfl
                go_upto_region 22 with fail
                go_cut [14, 16] from 80 (fun e g wx => e = .int .i64 (ask : Int) ∧ ∃ b, g = .pointer (some ⟨b, 0, none⟩) ∧ Hid (IsF (fun _ => True) wx pairN (.pointer (some ⟨b, 0, none⟩))) ∧ Hid (IsF (fun _ => True) wx xx (.pointer p)) ∧ Hid (Below w.heap.size w wx))
                case first =>
                  go_wp2_with fail
                  go_meet
                  exact ⟨HK4.out, _, rfl, HPM.out.1, HFY.out, HPX.out⟩
                case rest =>
                  obtain ⟨rfl, b, rfl, HPG, HFG, HBG⟩ := hcut
                  clear HK4 HPM HFY HPX HFX HAK
                  have HR1 := hide (Right_any xx _ wc HFG.out (HPT.out wc HBG.out))
                  have HBR : Hid (∀ W, Below w.heap.size w W → Calls Tryd.prog 8 #[errV (right xx), .int .i64 (ask : Int)] W fun x w' => x = .returned (.bool true) ∧ Below W.heap.size W w') := fun W hW => (bare_any (right xx) ask W (HDR.out W hW)).mono fun e w' h => ⟨h.1.trans (by rw [HRA.out]; simp), h.2⟩
                  have hx : (∃ t v, errV (right xx) = .iface t v) ∨ errV (right xx) = .nilIface := by
                    cases right xx with
                    | none => exact .inr rfl
                    | some k => exact .inl ⟨_, _, rfl⟩
                  generalize errV (right xx) = ev at *
                  have HRP : Hid (∀ W, Below wc.heap.size wc W → Calls Tryd.prog 15 #[.pointer (some ⟨b, 0, none⟩)] W fun e w' => e = .returned (.iface 30 (.int .i64 7)) ∧ Below W.heap.size W w') := fun W hW => (Right_any pairN _ W (HPG.out.below hW) (HPT.out W (then_ HBG.out hW))).mono fun e w' h => ⟨h.1.trans (by rw [HPR.out]; rfl), h.2⟩
                  have HRN : Hid (∀ W, Below w.heap.size w W → Calls Tryd.prog 15 #[.pointer none] W fun e w' => e = .returned (.iface 30 (.int .i64 7)) ∧ Below W.heap.size W w') := fun W hW => (Right_any nilF _ W (isF_nil.2 rfl) (HPT.out W hW)).mono fun e w' h => ⟨h.1.trans (by rw [right_nil]; rfl), h.2⟩
                  have HB7 : Hid (∀ W, Below w.heap.size w W → Calls Tryd.prog 8 #[.iface 30 (.int .i64 7), .int .i64 7] W fun x w' => x = .returned (.bool true) ∧ Below W.heap.size W w') := fun W hW => (bare_any (some 7) 7 W (HDR.out W hW)).mono fun e w' h => ⟨h.1.trans (by simp [num]), h.2⟩
                  clear HPG HFG HPR
                  rcases hx with ⟨tv, vv, rfl⟩ | rfl
                  all_goals
                    go_wp2_with fail
                    refine HR1.out.mono ?_
                    rintro e w5 ⟨rfl, hb5⟩
                    have HW5 := hide hb5
                    have HB5 := hide (then_ HBG.out hb5)
                    have HC5 := hide (HBR.out w5 HB5.out)
                    clear hb5 HR1 HBR
                    go_wp2_with fail
                    refine HC5.out.mono ?_
                    rintro e w6 ⟨rfl, hb6⟩
                    have HW6 := hide (then_ HW5.out hb6)
                    have HB6 := hide (then_ HB5.out hb6)
                    have HC6 := hide (HRP.out w6 HW6.out)
                    clear hb6 HC5 HRP
                    go_wp2_with fail
                    refine HC6.out.mono ?_
                    rintro e w7 ⟨rfl, hb7⟩
                    have HBB7 := hide (then_ HB6.out hb7)
                    have HC7 := hide (HB7.out w7 HBB7.out)
                    clear hb7 HC6
                    go_wp2_with fail
                    refine HC7.out.mono ?_
                    rintro e w8 ⟨rfl, hb8⟩
                    have HBB8 := hide (then_ HBB7.out hb8)
                    have HC8 := hide (HRN.out w8 HBB8.out)
                    clear hb8 HC7 HRN
                    go_wp2_with fail
                    refine HC8.out.mono ?_
                    rintro e w9 ⟨rfl, hb9⟩
                    have HBB9 := hide (then_ HBB8.out hb9)
                    have HC9 := hide (HB7.out w9 HBB9.out)
                    clear hb9 HC8 HB7
                    go_wp2_with fail
                    refine HC9.out.mono ?_
                    rintro e w10 ⟨rfl, hb10⟩
                    have HBB10 := hide (then_ HBB9.out hb10)
                    clear hb10 HC9
                    go_wp2_with fail
                    go_ret
                    exact ⟨rfl, HBB10.out⟩
              · have hAi : ¬ (20 : Int) < (i : Int) + 1 := by omega
                have hBi : ((ow : Int) == 0) = true := by simp [hB]
                have hCi : (0 : Int) < (j : Int) := by omega
                have hEi : (20 : Int) < (i : Int) + 2 := by omega
                have HK4 : Hid (Value.int IntKind.i64 4 = .int .i64 (ask : Int)) := by show _ = _; rw [HAK.out, if_pos (.inr ⟨hB, hC, hE⟩)]; rfl
                go_upto_region 22 with fail
                go_cut [14, 16] from 80 (fun e g wx => e = .int .i64 (ask : Int) ∧ ∃ b, g = .pointer (some ⟨b, 0, none⟩) ∧ Hid (IsF (fun _ => True) wx pairN (.pointer (some ⟨b, 0, none⟩))) ∧ Hid (IsF (fun _ => True) wx xx (.pointer p)) ∧ Hid (Below w.heap.size w wx))
                case first =>
                  go_wp2_with fail
                  go_meet
                  exact ⟨HK4.out, _, rfl, HPM.out.1, HFY.out, HPX.out⟩
                case rest =>
                  obtain ⟨rfl, b, rfl, HPG, HFG, HBG⟩ := hcut
                  clear HK4 HPM HFY HPX HFX HAK
                  have HR1 := hide (Right_any xx _ wc HFG.out (HPT.out wc HBG.out))
                  have HBR : Hid (∀ W, Below w.heap.size w W → Calls Tryd.prog 8 #[errV (right xx), .int .i64 (ask : Int)] W fun x w' => x = .returned (.bool true) ∧ Below W.heap.size W w') := fun W hW => (bare_any (right xx) ask W (HDR.out W hW)).mono fun e w' h => ⟨h.1.trans (by rw [HRA.out]; simp), h.2⟩
                  have hx : (∃ t v, errV (right xx) = .iface t v) ∨ errV (right xx) = .nilIface := by
                    cases right xx with
                    | none => exact .inr rfl
                    | some k => exact .inl ⟨_, _, rfl⟩
                  generalize errV (right xx) = ev at *
                  have HRP : Hid (∀ W, Below wc.heap.size wc W → Calls Tryd.prog 15 #[.pointer (some ⟨b, 0, none⟩)] W fun e w' => e = .returned (.iface 30 (.int .i64 7)) ∧ Below W.heap.size W w') := fun W hW => (Right_any pairN _ W (HPG.out.below hW) (HPT.out W (then_ HBG.out hW))).mono fun e w' h => ⟨h.1.trans (by rw [HPR.out]; rfl), h.2⟩
                  have HRN : Hid (∀ W, Below w.heap.size w W → Calls Tryd.prog 15 #[.pointer none] W fun e w' => e = .returned (.iface 30 (.int .i64 7)) ∧ Below W.heap.size W w') := fun W hW => (Right_any nilF _ W (isF_nil.2 rfl) (HPT.out W hW)).mono fun e w' h => ⟨h.1.trans (by rw [right_nil]; rfl), h.2⟩
                  have HB7 : Hid (∀ W, Below w.heap.size w W → Calls Tryd.prog 8 #[.iface 30 (.int .i64 7), .int .i64 7] W fun x w' => x = .returned (.bool true) ∧ Below W.heap.size W w') := fun W hW => (bare_any (some 7) 7 W (HDR.out W hW)).mono fun e w' h => ⟨h.1.trans (by simp [num]), h.2⟩
                  clear HPG HFG HPR
                  rcases hx with ⟨tv, vv, rfl⟩ | rfl
                  all_goals
                    go_wp2_with fail
                    refine HR1.out.mono ?_
                    rintro e w5 ⟨rfl, hb5⟩
                    have HW5 := hide hb5
                    have HB5 := hide (then_ HBG.out hb5)
                    have HC5 := hide (HBR.out w5 HB5.out)
                    clear hb5 HR1 HBR
                    go_wp2_with fail
                    refine HC5.out.mono ?_
                    rintro e w6 ⟨rfl, hb6⟩
                    have HW6 := hide (then_ HW5.out hb6)
                    have HB6 := hide (then_ HB5.out hb6)
                    have HC6 := hide (HRP.out w6 HW6.out)
                    clear hb6 HC5 HRP
                    go_wp2_with fail
                    refine HC6.out.mono ?_
                    rintro e w7 ⟨rfl, hb7⟩
                    have HBB7 := hide (then_ HB6.out hb7)
                    have HC7 := hide (HB7.out w7 HBB7.out)
                    clear hb7 HC6
                    go_wp2_with fail
                    refine HC7.out.mono ?_
                    rintro e w8 ⟨rfl, hb8⟩
                    have HBB8 := hide (then_ HBB7.out hb8)
                    have HC8 := hide (HRN.out w8 HBB8.out)
                    clear hb8 HC7 HRN
                    go_wp2_with fail
                    refine HC8.out.mono ?_
                    rintro e w9 ⟨rfl, hb9⟩
                    have HBB9 := hide (then_ HBB8.out hb9)
                    have HC9 := hide (HB7.out w9 HBB9.out)
                    clear hb9 HC8 HB7
                    go_wp2_with fail
                    refine HC9.out.mono ?_
                    rintro e w10 ⟨rfl, hb10⟩
                    have HBB10 := hide (then_ HBB9.out hb10)
                    clear hb10 HC9
                    go_wp2_with fail
                    go_ret
                    exact ⟨rfl, HBB10.out⟩
              · have hAi : ¬ (20 : Int) < (i : Int) + 1 := by omega
                have hBi : ((ow : Int) == 0) = true := by simp [hB]
                have hCi : (0 : Int) < (j : Int) := by omega
                have hEi : ¬ (20 : Int) < (i : Int) + 2 := by omega
                have HK4 : Hid (Value.int IntKind.i64 0 = .int .i64 (ask : Int)) := by show _ = _; rw [HAK.out, if_neg (by omega), hB]; rfl
                go_upto_region 22 with fail
                go_cut [14, 16] from 80 (fun e g wx => e = .int .i64 (ask : Int) ∧ ∃ b, g = .pointer (some ⟨b, 0, none⟩) ∧ Hid (IsF (fun _ => True) wx pairN (.pointer (some ⟨b, 0, none⟩))) ∧ Hid (IsF (fun _ => True) wx xx (.pointer p)) ∧ Hid (Below w.heap.size w wx))
                case first =>
                  go_wp2_with fail
                  go_meet
                  exact ⟨HK4.out, _, rfl, HPM.out.1, HFY.out, HPX.out⟩
                case rest =>
                  obtain ⟨rfl, b, rfl, HPG, HFG, HBG⟩ := hcut
                  clear HK4 HPM HFY HPX HFX HAK
                  have HR1 := hide (Right_any xx _ wc HFG.out (HPT.out wc HBG.out))
                  have HBR : Hid (∀ W, Below w.heap.size w W → Calls Tryd.prog 8 #[errV (right xx), .int .i64 (ask : Int)] W fun x w' => x = .returned (.bool true) ∧ Below W.heap.size W w') := fun W hW => (bare_any (right xx) ask W (HDR.out W hW)).mono fun e w' h => ⟨h.1.trans (by rw [HRA.out]; simp), h.2⟩
                  have hx : (∃ t v, errV (right xx) = .iface t v) ∨ errV (right xx) = .nilIface := by
                    cases right xx with
                    | none => exact .inr rfl
                    | some k => exact .inl ⟨_, _, rfl⟩
                  generalize errV (right xx) = ev at *
                  have HRP : Hid (∀ W, Below wc.heap.size wc W → Calls Tryd.prog 15 #[.pointer (some ⟨b, 0, none⟩)] W fun e w' => e = .returned (.iface 30 (.int .i64 7)) ∧ Below W.heap.size W w') := fun W hW => (Right_any pairN _ W (HPG.out.below hW) (HPT.out W (then_ HBG.out hW))).mono fun e w' h => ⟨h.1.trans (by rw [HPR.out]; rfl), h.2⟩
                  have HRN : Hid (∀ W, Below w.heap.size w W → Calls Tryd.prog 15 #[.pointer none] W fun e w' => e = .returned (.iface 30 (.int .i64 7)) ∧ Below W.heap.size W w') := fun W hW => (Right_any nilF _ W (isF_nil.2 rfl) (HPT.out W hW)).mono fun e w' h => ⟨h.1.trans (by rw [right_nil]; rfl), h.2⟩
                  have HB7 : Hid (∀ W, Below w.heap.size w W → Calls Tryd.prog 8 #[.iface 30 (.int .i64 7), .int .i64 7] W fun x w' => x = .returned (.bool true) ∧ Below W.heap.size W w') := fun W hW => (bare_any (some 7) 7 W (HDR.out W hW)).mono fun e w' h => ⟨h.1.trans (by simp [num]), h.2⟩
                  clear HPG HFG HPR
                  rcases hx with ⟨tv, vv, rfl⟩ | rfl
                  all_goals
                    go_wp2_with fail
                    refine HR1.out.mono ?_
                    rintro e w5 ⟨rfl, hb5⟩
                    have HW5 := hide hb5
                    have HB5 := hide (then_ HBG.out hb5)
                    have HC5 := hide (HBR.out w5 HB5.out)
                    clear hb5 HR1 HBR
                    go_wp2_with fail
                    refine HC5.out.mono ?_
                    rintro e w6 ⟨rfl, hb6⟩
                    have HW6 := hide (then_ HW5.out hb6)
                    have HB6 := hide (then_ HB5.out hb6)
                    have HC6 := hide (HRP.out w6 HW6.out)
                    clear hb6 HC5 HRP
                    go_wp2_with fail
                    refine HC6.out.mono ?_
                    rintro e w7 ⟨rfl, hb7⟩
                    have HBB7 := hide (then_ HB6.out hb7)
                    have HC7 := hide (HB7.out w7 HBB7.out)
                    clear hb7 HC6
                    go_wp2_with fail
                    refine HC7.out.mono ?_
                    rintro e w8 ⟨rfl, hb8⟩
                    have HBB8 := hide (then_ HBB7.out hb8)
                    have HC8 := hide (HRN.out w8 HBB8.out)
                    clear hb8 HC7 HRN
                    go_wp2_with fail
                    refine HC8.out.mono ?_
                    rintro e w9 ⟨rfl, hb9⟩
                    have HBB9 := hide (then_ HBB8.out hb9)
                    have HC9 := hide (HB7.out w9 HBB9.out)
                    clear hb9 HC8 HB7
                    go_wp2_with fail
                    refine HC9.out.mono ?_
                    rintro e w10 ⟨rfl, hb10⟩
                    have HBB10 := hide (then_ HBB9.out hb10)
                    clear hb10 HC9
                    go_wp2_with fail
                    go_ret
                    exact ⟨rfl, HBB10.out⟩
              · have hAi : ¬ (20 : Int) < (i : Int) + 1 := by omega
                have hBi : ((ow : Int) == 0) = true := by simp [hB]
                have hCi : ¬ (0 : Int) < (j : Int) := by omega
                have HK4 : Hid (Value.int IntKind.i64 0 = .int .i64 (ask : Int)) := by show _ = _; rw [HAK.out, if_neg (by omega), hB]; rfl
                go_upto_region 22 with fail
                go_cut [14, 16] from 80 (fun e g wx => e = .int .i64 (ask : Int) ∧ ∃ b, g = .pointer (some ⟨b, 0, none⟩) ∧ Hid (IsF (fun _ => True) wx pairN (.pointer (some ⟨b, 0, none⟩))) ∧ Hid (IsF (fun _ => True) wx xx (.pointer p)) ∧ Hid (Below w.heap.size w wx))
                case first =>
                  go_wp2_with fail
                  go_meet
                  exact ⟨HK4.out, _, rfl, HPM.out.1, HFY.out, HPX.out⟩
                case rest =>
                  obtain ⟨rfl, b, rfl, HPG, HFG, HBG⟩ := hcut
                  clear HK4 HPM HFY HPX HFX HAK
                  have HR1 := hide (Right_any xx _ wc HFG.out (HPT.out wc HBG.out))
                  have HBR : Hid (∀ W, Below w.heap.size w W → Calls Tryd.prog 8 #[errV (right xx), .int .i64 (ask : Int)] W fun x w' => x = .returned (.bool true) ∧ Below W.heap.size W w') := fun W hW => (bare_any (right xx) ask W (HDR.out W hW)).mono fun e w' h => ⟨h.1.trans (by rw [HRA.out]; simp), h.2⟩
                  have hx : (∃ t v, errV (right xx) = .iface t v) ∨ errV (right xx) = .nilIface := by
                    cases right xx with
                    | none => exact .inr rfl
                    | some k => exact .inl ⟨_, _, rfl⟩
                  generalize errV (right xx) = ev at *
                  have HRP : Hid (∀ W, Below wc.heap.size wc W → Calls Tryd.prog 15 #[.pointer (some ⟨b, 0, none⟩)] W fun e w' => e = .returned (.iface 30 (.int .i64 7)) ∧ Below W.heap.size W w') := fun W hW => (Right_any pairN _ W (HPG.out.below hW) (HPT.out W (then_ HBG.out hW))).mono fun e w' h => ⟨h.1.trans (by rw [HPR.out]; rfl), h.2⟩
                  have HRN : Hid (∀ W, Below w.heap.size w W → Calls Tryd.prog 15 #[.pointer none] W fun e w' => e = .returned (.iface 30 (.int .i64 7)) ∧ Below W.heap.size W w') := fun W hW => (Right_any nilF _ W (isF_nil.2 rfl) (HPT.out W hW)).mono fun e w' h => ⟨h.1.trans (by rw [right_nil]; rfl), h.2⟩
                  have HB7 : Hid (∀ W, Below w.heap.size w W → Calls Tryd.prog 8 #[.iface 30 (.int .i64 7), .int .i64 7] W fun x w' => x = .returned (.bool true) ∧ Below W.heap.size W w') := fun W hW => (bare_any (some 7) 7 W (HDR.out W hW)).mono fun e w' h => ⟨h.1.trans (by simp [num]), h.2⟩
                  clear HPG HFG HPR
                  rcases hx with ⟨tv, vv, rfl⟩ | rfl
                  all_goals
                    go_wp2_with fail
                    refine HR1.out.mono ?_
                    rintro e w5 ⟨rfl, hb5⟩
                    have HW5 := hide hb5
                    have HB5 := hide (then_ HBG.out hb5)
                    have HC5 := hide (HBR.out w5 HB5.out)
                    clear hb5 HR1 HBR
                    go_wp2_with fail
                    refine HC5.out.mono ?_
                    rintro e w6 ⟨rfl, hb6⟩
                    have HW6 := hide (then_ HW5.out hb6)
                    have HB6 := hide (then_ HB5.out hb6)
                    have HC6 := hide (HRP.out w6 HW6.out)
                    clear hb6 HC5 HRP
                    go_wp2_with fail
                    refine HC6.out.mono ?_
                    rintro e w7 ⟨rfl, hb7⟩
                    have HBB7 := hide (then_ HB6.out hb7)
                    have HC7 := hide (HB7.out w7 HBB7.out)
                    clear hb7 HC6
                    go_wp2_with fail
                    refine HC7.out.mono ?_
                    rintro e w8 ⟨rfl, hb8⟩
                    have HBB8 := hide (then_ HBB7.out hb8)
                    have HC8 := hide (HRN.out w8 HBB8.out)
                    clear hb8 HC7 HRN
                    go_wp2_with fail
                    refine HC8.out.mono ?_
                    rintro e w9 ⟨rfl, hb9⟩
                    have HBB9 := hide (then_ HBB8.out hb9)
                    have HC9 := hide (HB7.out w9 HBB9.out)
                    clear hb9 HC8 HB7
                    go_wp2_with fail
                    refine HC9.out.mono ?_
                    rintro e w10 ⟨rfl, hb10⟩
                    have HBB10 := hide (then_ HBB9.out hb10)
                    clear hb10 HC9
                    go_wp2_with fail
                    go_ret
                    exact ⟨rfl, HBB10.out⟩
              · have hAi : ¬ (20 : Int) < (i : Int) + 1 := by omega
                have hBi : ((ow : Int) == 0) = false := by simp; omega
                have HK4 : Hid (Value.int IntKind.i64 (ow : Int) = .int .i64 (ask : Int)) := by show _ = _; rw [HAK.out, if_neg (by omega)]
                go_upto_region 22 with fail
                go_cut [14, 16] from 80 (fun e g wx => e = .int .i64 (ask : Int) ∧ ∃ b, g = .pointer (some ⟨b, 0, none⟩) ∧ Hid (IsF (fun _ => True) wx pairN (.pointer (some ⟨b, 0, none⟩))) ∧ Hid (IsF (fun _ => True) wx xx (.pointer p)) ∧ Hid (Below w.heap.size w wx))
                case first =>
                  go_wp2_with fail
                  go_meet
                  exact ⟨HK4.out, _, rfl, HPM.out.1, HFY.out, HPX.out⟩
                case rest =>
                  obtain ⟨rfl, b, rfl, HPG, HFG, HBG⟩ := hcut
                  clear HK4 HPM HFY HPX HFX HAK
                  have HR1 := hide (Right_any xx _ wc HFG.out (HPT.out wc HBG.out))
                  have HBR : Hid (∀ W, Below w.heap.size w W → Calls Tryd.prog 8 #[errV (right xx), .int .i64 (ask : Int)] W fun x w' => x = .returned (.bool true) ∧ Below W.heap.size W w') := fun W hW => (bare_any (right xx) ask W (HDR.out W hW)).mono fun e w' h => ⟨h.1.trans (by rw [HRA.out]; simp), h.2⟩
                  have hx : (∃ t v, errV (right xx) = .iface t v) ∨ errV (right xx) = .nilIface := by
                    cases right xx with
                    | none => exact .inr rfl
                    | some k => exact .inl ⟨_, _, rfl⟩
                  generalize errV (right xx) = ev at *
                  have HRP : Hid (∀ W, Below wc.heap.size wc W → Calls Tryd.prog 15 #[.pointer (some ⟨b, 0, none⟩)] W fun e w' => e = .returned (.iface 30 (.int .i64 7)) ∧ Below W.heap.size W w') := fun W hW => (Right_any pairN _ W (HPG.out.below hW) (HPT.out W (then_ HBG.out hW))).mono fun e w' h => ⟨h.1.trans (by rw [HPR.out]; rfl), h.2⟩
                  have HRN : Hid (∀ W, Below w.heap.size w W → Calls Tryd.prog 15 #[.pointer none] W fun e w' => e = .returned (.iface 30 (.int .i64 7)) ∧ Below W.heap.size W w') := fun W hW => (Right_any nilF _ W (isF_nil.2 rfl) (HPT.out W hW)).mono fun e w' h => ⟨h.1.trans (by rw [right_nil]; rfl), h.2⟩
                  have HB7 : Hid (∀ W, Below w.heap.size w W → Calls Tryd.prog 8 #[.iface 30 (.int .i64 7), .int .i64 7] W fun x w' => x = .returned (.bool true) ∧ Below W.heap.size W w') := fun W hW => (bare_any (some 7) 7 W (HDR.out W hW)).mono fun e w' h => ⟨h.1.trans (by simp [num]), h.2⟩
                  clear HPG HFG HPR
                  rcases hx with ⟨tv, vv, rfl⟩ | rfl
                  all_goals
                    go_wp2_with fail
                    refine HR1.out.mono ?_
                    rintro e w5 ⟨rfl, hb5⟩
                    have HW5 := hide hb5
                    have HB5 := hide (then_ HBG.out hb5)
                    have HC5 := hide (HBR.out w5 HB5.out)
                    clear hb5 HR1 HBR
                    go_wp2_with fail
                    refine HC5.out.mono ?_
                    rintro e w6 ⟨rfl, hb6⟩
                    have HW6 := hide (then_ HW5.out hb6)
                    have HB6 := hide (then_ HB5.out hb6)
                    have HC6 := hide (HRP.out w6 HW6.out)
                    clear hb6 HC5 HRP
                    go_wp2_with fail
                    refine HC6.out.mono ?_
                    rintro e w7 ⟨rfl, hb7⟩
                    have HBB7 := hide (then_ HB6.out hb7)
                    have HC7 := hide (HB7.out w7 HBB7.out)
                    clear hb7 HC6
                    go_wp2_with fail
                    refine HC7.out.mono ?_
                    rintro e w8 ⟨rfl, hb8⟩
                    have HBB8 := hide (then_ HBB7.out hb8)
                    have HC8 := hide (HRN.out w8 HBB8.out)
                    clear hb8 HC7 HRN
                    go_wp2_with fail
                    refine HC8.out.mono ?_
                    rintro e w9 ⟨rfl, hb9⟩
                    have HBB9 := hide (then_ HBB8.out hb9)
                    have HC9 := hide (HB7.out w9 HBB9.out)
                    clear hb9 HC8 HB7
                    go_wp2_with fail
                    refine HC9.out.mono ?_
                    rintro e w10 ⟨rfl, hb10⟩
                    have HBB10 := hide (then_ HBB9.out hb10)
                    clear hb10 HC9
                    go_wp2_with fail
                    go_ret
                    exact ⟨rfl, HBB10.out⟩
      · have HE : Hid (Value.int IntKind.i64 0 = .int .i64 (ow : Int)) := by show _ = _; rw [HO.out]; rfl
        have hk1b : (k != 1) = true := by simp [hk1]
        go_upto_region 16 with fail
        go_cut [14, 15] from 48 (fun e z wx => e = .int .i64 (ow : Int) ∧ z = .int .i64 0 ∧ Hid (wx = W10))
        case first =>
          go_wp2_with fail
          go_meet
          exact ⟨HE.out, rfl, rfl⟩
        case rest =>
          obtain ⟨rfl, rfl, hwc⟩ := hcut
          have hwc' := hwc.out
          subst hwc'
          clear hwc HE HO
          go_wp2_with fail
          go_loopw [15, 9] (fun iv fv wx => ∃ (i : Nat) (p : Option Addr), i ≤ d ∧ iv = .int .i64 (i : Int) ∧ fv = .pointer p ∧ Hid (IsF (fun _ => True) wx (nots i (root k [] j)) (.pointer p)) ∧ Hid (Below w.heap.size w wx)) (fun iv _ _ => d - (intOf iv).toNat)
          case atStart => exact ⟨0, _, Nat.zero_le _, rfl, rfl, HF10.out, HB10.out⟩
          case round =>
            obtain ⟨i, p, hi, rfl, rfl, HFX, HBX⟩ := hrel
            by_cases hlt : i < d
            · have hii : (i : Int) < (d : Int) := by omega
              have HWR := hide (wrapped HFX.out)
              go_wp2_with fail
              go_roundw
              case rel => exact ⟨i + 1, _, by omega, by go_num, rfl, HWR.out.1, then_ HBX.out HWR.out.2⟩
              case measure => simp [intOf]; omega
            · have hid : i = d := by omega
              subst hid
              have hii : ¬ (i : Int) < (i : Int) := by omega
              have HPM := hide (pair_made wr)
              obtain ⟨ask, hask⟩ : ∃ ask, ask = askN k [] j i := ⟨_, rfl⟩
              have HAK : Hid (ask = if 20 < i + 1 ∨ (ow = 0 ∧ 0 < j ∧ 20 < i + 2) then 4 else ow) := by show _ = _; rw [hask, HOW.out]; rfl
              have HRA : Hid (num (right (nots i (root k [] j))) = ask) := HNR.out.trans hask.symm
              have HPR : Hid (right pairN = some 7) := right_pair
              have HPX : Hid (Below w.heap.size w (((wr.alloc (.cells #[.int .i64 2, .string ⟨#[]⟩, .slice none 0 0] 54)).alloc (.cells #[.pointer (some ⟨wr.heap.size, 0, none⟩), .pointer none] 40)).alloc (.cells #[.int .i64 4, .string ⟨#[]⟩, .slice (some ⟨wr.heap.size + 1, 0, none⟩) 2 2] 54))) := then_ HBX.out HPM.out.2
              have HFY := hide (HFX.out.below HPM.out.2)
              clear hask HNR
              have hlo : ow ≤ 9 := by
                have := HLO.out
                exact this
              generalize nots i (root k [] j) = xx at *
              have hfive : (20 < i + 1) ∨ (¬ 20 < i + 1 ∧ ow = 0 ∧ 0 < j ∧ 20 < i + 2) ∨ (¬ 20 < i + 1 ∧ ow = 0 ∧ 0 < j ∧ ¬ 20 < i + 2) ∨ (¬ 20 < i + 1 ∧ ow = 0 ∧ ¬ 0 < j) ∨ (¬ 20 < i + 1 ∧ ow ≠ 0) := by omega
              rcases hfive with hA | ⟨hA, hB, hC, hE⟩ | ⟨hA, hB, hC, hE⟩ | ⟨hA, hB, hC⟩ | ⟨hA, hB⟩
              · have hAi : (20 : Int) < (i : Int) + 1 := by omega
                have HK4 : Hid (Value.int IntKind.i64 4 = .int .i64 (ask : Int)) := by show _ = _; rw [HAK.out, if_pos (.inl hA)]; rfl
                go_upto_region 22 with fail
                go_cut [14, 16] from 80 (fun e g wx => e = .int .i64 (ask : Int) ∧ ∃ b, g = .pointer (some ⟨b, 0, none⟩) ∧ Hid (IsF (fun _ => True) wx pairN (.pointer (some ⟨b, 0, none⟩))) ∧ Hid (IsF (fun _ => True) wx xx (.pointer p)) ∧ Hid (Below w.heap.size w wx))
                case first =>
                  go_wp2_with fail
                  go_meet
                  exact ⟨HK4.out, _, rfl, HPM.out.1, HFY.out, HPX.out⟩
                case rest =>
                  obtain ⟨rfl, b, rfl, HPG, HFG, HBG⟩ := hcut
                  clear HK4 HPM HFY HPX HFX HAK
                  have HR1 := hide (Right_any xx _ wc HFG.out (HPT.out wc HBG.out))
                  have HBR : Hid (∀ W, Below w.heap.size w W → Calls Tryd.prog 8 #[errV (right xx), .int .i64 (ask : Int)] W fun x w' => x = .returned (.bool true) ∧ Below W.heap.size W w') := fun W hW => (bare_any (right xx) ask W (HDR.out W hW)).mono fun e w' h => ⟨h.1.trans (by rw [HRA.out]; simp), h.2⟩
                  have hx : (∃ t v, errV (right xx) = .iface t v) ∨ errV (right xx) = .nilIface := by
                    cases right xx with
                    | none => exact .inr rfl
                    | some k => exact .inl ⟨_, _, rfl⟩
                  generalize errV (right xx) = ev at *
                  have HRP : Hid (∀ W, Below wc.heap.size wc W → Calls Tryd.prog 15 #[.pointer (some ⟨b, 0, none⟩)] W fun e w' => e = .returned (.iface 30 (.int .i64 7)) ∧ Below W.heap.size W w') := fun W hW => (Right_any pairN _ W (HPG.out.below hW) (HPT.out W (then_ HBG.out hW))).mono fun e w' h => ⟨h.1.trans (by rw [HPR.out]; rfl), h.2⟩
                  have HRN : Hid (∀ W, Below w.heap.size w W → Calls Tryd.prog 15 #[.pointer none] W fun e w' => e = .returned (.iface 30 (.int .i64 7)) ∧ Below W.heap.size W w') := fun W hW => (Right_any nilF _ W (isF_nil.2 rfl) (HPT.out W hW)).mono fun e w' h => ⟨h.1.trans (by rw [right_nil]; rfl), h.2⟩
                  have HB7 : Hid (∀ W, Below w.heap.size w W → Calls Tryd.prog 8 #[.iface 30 (.int .i64 7), .int .i64 7] W fun x w' => x = .returned (.bool true) ∧ Below W.heap.size W w') := fun W hW => (bare_any (some 7) 7 W (HDR.out W hW)).mono fun e w' h => ⟨h.1.trans (by simp [num]), h.2⟩
                  clear HPG HFG HPR
                  rcases hx with ⟨tv, vv, rfl⟩ | rfl
                  all_goals
                    go_wp2_with fail
                    refine HR1.out.mono ?_
                    rintro e w5 ⟨rfl, hb5⟩
                    have HW5 := hide hb5
                    have HB5 := hide (then_ HBG.out hb5)
                    have HC5 := hide (HBR.out w5 HB5.out)
                    clear hb5 HR1 HBR
                    go_wp2_with fail
                    refine HC5.out.mono ?_
                    rintro e w6 ⟨rfl, hb6⟩
                    have HW6 := hide (then_ HW5.out hb6)
                    have HB6 := hide (then_ HB5.out hb6)
                    have HC6 := hide (HRP.out w6 HW6.out)
                    clear hb6 HC5 HRP
                    go_wp2_with fail
                    refine HC6.out.mono ?_
                    rintro e w7 ⟨rfl, hb7⟩
                    have HBB7 := hide (then_ HB6.out hb7)
                    have HC7 := hide (HB7.out w7 HBB7.out)
                    clear hb7 HC6
                    go_wp2_with fail
                    refine HC7.out.mono ?_
                    rintro e w8 ⟨rfl, hb8⟩
                    have HBB8 := hide (then_ HBB7.out hb8)
                    have HC8 := hide (HRN.out w8 HBB8.out)
                    clear hb8 HC7 HRN
                    go_wp2_with fail
                    refine HC8.out.mono ?_
                    rintro e w9 ⟨rfl, hb9⟩
                    have HBB9 := hide (then_ HBB8.out hb9)
                    have HC9 := hide (HB7.out w9 HBB9.out)
                    clear hb9 HC8 HB7
                    go_wp2_with fail
                    refine HC9.out.mono ?_
                    rintro e w10 ⟨rfl, hb10⟩
                    have HBB10 := hide (then_ HBB9.out hb10)
                    clear hb10 HC9
                    go_wp2_with fail
                    go_ret
                    exact ⟨rfl, HBB10.out⟩
              · have hAi : ¬ (20 : Int) < (i : Int) + 1 := by omega
                have hBi : ((ow : Int) == 0) = true := by simp [hB]
                have hCi : (0 : Int) < (j : Int) := by omega
                have hEi : (20 : Int) < (i : Int) + 2 := by omega
                have HK4 : Hid (Value.int IntKind.i64 4 = .int .i64 (ask : Int)) := by show _ = _; rw [HAK.out, if_pos (.inr ⟨hB, hC, hE⟩)]; rfl
                go_upto_region 22 with fail
                go_cut [14, 16] from 80 (fun e g wx => e = .int .i64 (ask : Int) ∧ ∃ b, g = .pointer (some ⟨b, 0, none⟩) ∧ Hid (IsF (fun _ => True) wx pairN (.pointer (some ⟨b, 0, none⟩))) ∧ Hid (IsF (fun _ => True) wx xx (.pointer p)) ∧ Hid (Below w.heap.size w wx))
                case first =>
                  go_wp2_with fail
                  go_meet
                  exact ⟨HK4.out, _, rfl, HPM.out.1, HFY.out, HPX.out⟩
                case rest =>
                  obtain ⟨rfl, b, rfl, HPG, HFG, HBG⟩ := hcut
                  clear HK4 HPM HFY HPX HFX HAK
                  have HR1 := hide (Right_any xx _ wc HFG.out (HPT.out wc HBG.out))
                  have HBR : Hid (∀ W, Below w.heap.size w W → Calls Tryd.prog 8 #[errV (right xx), .int .i64 (ask : Int)] W fun x w' => x = .returned (.bool true) ∧ Below W.heap.size W w') := fun W hW => (bare_any (right xx) ask W (HDR.out W hW)).mono fun e w' h => ⟨h.1.trans (by rw [HRA.out]; simp), h.2⟩
                  have hx : (∃ t v, errV (right xx) = .iface t v) ∨ errV (right xx) = .nilIface := by
                    cases right xx with
                    | none => exact .inr rfl
                    | some k => exact .inl ⟨_, _, rfl⟩
                  generalize errV (right xx) = ev at *
                  have HRP : Hid (∀ W, Below wc.heap.size wc W → Calls Tryd.prog 15 #[.pointer (some ⟨b, 0, none⟩)] W fun e w' => e = .returned (.iface 30 (.int .i64 7)) ∧ Below W.heap.size W w') := fun W hW => (Right_any pairN _ W (HPG.out.below hW) (HPT.out W (then_ HBG.out hW))).mono fun e w' h => ⟨h.1.trans (by rw [HPR.out]; rfl), h.2⟩
                  have HRN : Hid (∀ W, Below w.heap.size w W → Calls Tryd.prog 15 #[.pointer none] W fun e w' => e = .returned (.iface 30 (.int .i64 7)) ∧ Below W.heap.size W w') := fun W hW => (Right_any nilF _ W (isF_nil.2 rfl) (HPT.out W hW)).mono fun e w' h => ⟨h.1.trans (by rw [right_nil]; rfl), h.2⟩
                  have HB7 : Hid (∀ W, Below w.heap.size w W → Calls Tryd.prog 8 #[.iface 30 (.int .i64 7), .int .i64 7] W fun x w' => x = .returned (.bool true) ∧ Below W.heap.size W w') := fun W hW => (bare_any (some 7) 7 W (HDR.out W hW)).mono fun e w' h => ⟨h.1.trans (by simp [num]), h.2⟩
                  clear HPG HFG HPR
                  rcases hx with ⟨tv, vv, rfl⟩ | rfl
                  all_goals
                    go_wp2_with fail
                    refine HR1.out.mono ?_
                    rintro e w5 ⟨rfl, hb5⟩
                    have HW5 := hide hb5
                    have HB5 := hide (then_ HBG.out hb5)
                    have HC5 := hide (HBR.out w5 HB5.out)
                    clear hb5 HR1 HBR
                    go_wp2_with fail
                    refine HC5.out.mono ?_
                    rintro e w6 ⟨rfl, hb6⟩
                    have HW6 := hide (then_ HW5.out hb6)
                    have HB6 := hide (then_ HB5.out hb6)
                    have HC6 := hide (HRP.out w6 HW6.out)
                    clear hb6 HC5 HRP
                    go_wp2_with fail
                    refine HC6.out.mono ?_
                    rintro e w7 ⟨rfl, hb7⟩
                    have HBB7 := hide (then_ HB6.out hb7)
                    have HC7 := hide (HB7.out w7 HBB7.out)
                    clear hb7 HC6
                    go_wp2_with fail
                    refine HC7.out.mono ?_
                    rintro e w8 ⟨rfl, hb8⟩
                    have HBB8 := hide (then_ HBB7.out hb8)
                    have HC8 := hide (HRN.out w8 HBB8.out)
                    clear hb8 HC7 HRN
                    go_wp2_with fail
                    refine HC8.out.mono ?_
                    rintro e w9 ⟨rfl, hb9⟩
                    have HBB9 := hide (then_ HBB8.out hb9)
                    have HC9 := hide (HB7.out w9 HBB9.out)
                    clear hb9 HC8 HB7
                    go_wp2_with fail
                    refine HC9.out.mono ?_
                    rintro e w10 ⟨rfl, hb10⟩
                    have HBB10 := hide (then_ HBB9.out hb10)
                    clear hb10 HC9
                    go_wp2_with fail
                    go_ret
                    exact ⟨rfl, HBB10.out⟩
              · have hAi : ¬ (20 : Int) < (i : Int) + 1 := by omega
                have hBi : ((ow : Int) == 0) = true := by simp [hB]
                have hCi : (0 : Int) < (j : Int) := by omega
                have hEi : ¬ (20 : Int) < (i : Int) + 2 := by omega
                have HK4 : Hid (Value.int IntKind.i64 0 = .int .i64 (ask : Int)) := by show _ = _; rw [HAK.out, if_neg (by omega), hB]; rfl
                go_upto_region 22 with fail
                go_cut [14, 16] from 80 (fun e g wx => e = .int .i64 (ask : Int) ∧ ∃ b, g = .pointer (some ⟨b, 0, none⟩) ∧ Hid (IsF (fun _ => True) wx pairN (.pointer (some ⟨b, 0, none⟩))) ∧ Hid (IsF (fun _ => True) wx xx (.pointer p)) ∧ Hid (Below w.heap.size w wx))
                case first =>
                  go_wp2_with fail
                  go_meet
                  exact ⟨HK4.out, _, rfl, HPM.out.1, HFY.out, HPX.out⟩
                case rest =>
                  obtain ⟨rfl, b, rfl, HPG, HFG, HBG⟩ := hcut
                  clear HK4 HPM HFY HPX HFX HAK
                  have HR1 := hide (Right_any xx _ wc HFG.out (HPT.out wc HBG.out))
                  have HBR : Hid (∀ W, Below w.heap.size w W → Calls Tryd.prog 8 #[errV (right xx), .int .i64 (ask : Int)] W fun x w' => x = .returned (.bool true) ∧ Below W.heap.size W w') := fun W hW => (bare_any (right xx) ask W (HDR.out W hW)).mono fun e w' h => ⟨h.1.trans (by rw [HRA.out]; simp), h.2⟩
                  have hx : (∃ t v, errV (right xx) = .iface t v) ∨ errV (right xx) = .nilIface := by
                    cases right xx with
                    | none => exact .inr rfl
                    | some k => exact .inl ⟨_, _, rfl⟩
                  generalize errV (right xx) = ev at *
                  have HRP : Hid (∀ W, Below wc.heap.size wc W → Calls Tryd.prog 15 #[.pointer (some ⟨b, 0, none⟩)] W fun e w' => e = .returned (.iface 30 (.int .i64 7)) ∧ Below W.heap.size W w') := fun W hW => (Right_any pairN _ W (HPG.out.below hW) (HPT.out W (then_ HBG.out hW))).mono fun e w' h => ⟨h.1.trans (by rw [HPR.out]; rfl), h.2⟩
                  have HRN : Hid (∀ W, Below w.heap.size w W → Calls Tryd.prog 15 #[.pointer none] W fun e w' => e = .returned (.iface 30 (.int .i64 7)) ∧ Below W.heap.size W w') := fun W hW => (Right_any nilF _ W (isF_nil.2 rfl) (HPT.out W hW)).mono fun e w' h => ⟨h.1.trans (by rw [right_nil]; rfl), h.2⟩
                  have HB7 : Hid (∀ W, Below w.heap.size w W → Calls Tryd.prog 8 #[.iface 30 (.int .i64 7), .int .i64 7] W fun x w' => x = .returned (.bool true) ∧ Below W.heap.size W w') := fun W hW => (bare_any (some 7) 7 W (HDR.out W hW)).mono fun e w' h => ⟨h.1.trans (by simp [num]), h.2⟩
                  clear HPG HFG HPR
                  rcases hx with ⟨tv, vv, rfl⟩ | rfl
                  all_goals
                    go_wp2_with fail
                    refine HR1.out.mono ?_
                    rintro e w5 ⟨rfl, hb5⟩
                    have HW5 := hide hb5
                    have HB5 := hide (then_ HBG.out hb5)
                    have HC5 := hide (HBR.out w5 HB5.out)
                    clear hb5 HR1 HBR
                    go_wp2_with fail
                    refine HC5.out.mono ?_
                    rintro e w6 ⟨rfl, hb6⟩
                    have HW6 := hide (then_ HW5.out hb6)
                    have HB6 := hide (then_ HB5.out hb6)
                    have HC6 := hide (HRP.out w6 HW6.out)
                    clear hb6 HC5 HRP
                    go_wp2_with fail
                    refine HC6.out.mono ?_
                    rintro e w7 ⟨rfl, hb7⟩
                    have HBB7 := hide (then_ HB6.out hb7)
                    have HC7 := hide (HB7.out w7 HBB7.out)
                    clear hb7 HC6
                    go_wp2_with fail
                    refine HC7.out.mono ?_
                    rintro e w8 ⟨rfl, hb8⟩
                    have HBB8 := hide (then_ HBB7.out hb8)
                    have HC8 := hide (HRN.out w8 HBB8.out)
                    clear hb8 HC7 HRN
                    go_wp2_with fail
                    refine HC8.out.mono ?_
                    rintro e w9 ⟨rfl, hb9⟩
                    have HBB9 := hide (then_ HBB8.out hb9)
                    have HC9 := hide (HB7.out w9 HBB9.out)
                    clear hb9 HC8 HB7
                    go_wp2_with fail
                    refine HC9.out.mono ?_
                    rintro e w10 ⟨rfl, hb10⟩
                    have HBB10 := hide (then_ HBB9.out hb10)
                    clear hb10 HC9
                    go_wp2_with fail
                    go_ret
                    exact ⟨rfl, HBB10.out⟩
              · have hAi : ¬ (20 : Int) < (i : Int) + 1 := by omega
                have hBi : ((ow : Int) == 0) = true := by simp [hB]
                have hCi : ¬ (0 : Int) < (j : Int) := by omega
                have HK4 : Hid (Value.int IntKind.i64 0 = .int .i64 (ask : Int)) := by show _ = _; rw [HAK.out, if_neg (by omega), hB]; rfl
                go_upto_region 22 with fail
                go_cut [14, 16] from 80 (fun e g wx => e = .int .i64 (ask : Int) ∧ ∃ b, g = .pointer (some ⟨b, 0, none⟩) ∧ Hid (IsF (fun _ => True) wx pairN (.pointer (some ⟨b, 0, none⟩))) ∧ Hid (IsF (fun _ => True) wx xx (.pointer p)) ∧ Hid (Below w.heap.size w wx))
                case first =>
                  go_wp2_with fail
                  go_meet
                  exact ⟨HK4.out, _, rfl, HPM.out.1, HFY.out, HPX.out⟩
                case rest =>
                  obtain ⟨rfl, b, rfl, HPG, HFG, HBG⟩ := hcut
                  clear HK4 HPM HFY HPX HFX HAK
                  have HR1 := hide (Right_any xx _ wc HFG.out (HPT.out wc HBG.out))
                  have HBR : Hid (∀ W, Below w.heap.size w W → Calls Tryd.prog 8 #[errV (right xx), .int .i64 (ask : Int)] W fun x w' => x = .returned (.bool true) ∧ Below W.heap.size W w') := fun W hW => (bare_any (right xx) ask W (HDR.out W hW)).mono fun e w' h => ⟨h.1.trans (by rw [HRA.out]; simp), h.2⟩
                  have hx : (∃ t v, errV (right xx) = .iface t v) ∨ errV (right xx) = .nilIface := by
                    cases right xx with
                    | none => exact .inr rfl
                    | some k => exact .inl ⟨_, _, rfl⟩
                  generalize errV (right xx) = ev at *
                  have HRP : Hid (∀ W, Below wc.heap.size wc W → Calls Tryd.prog 15 #[.pointer (some ⟨b, 0, none⟩)] W fun e w' => e = .returned (.iface 30 (.int .i64 7)) ∧ Below W.heap.size W w') := fun W hW => (Right_any pairN _ W (HPG.out.below hW) (HPT.out W (then_ HBG.out hW))).mono fun e w' h => ⟨h.1.trans (by rw [HPR.out]; rfl), h.2⟩
                  have HRN : Hid (∀ W, Below w.heap.size w W → Calls Tryd.prog 15 #[.pointer none] W fun e w' => e = .returned (.iface 30 (.int .i64 7)) ∧ Below W.heap.size W w') := fun W hW => (Right_any nilF _ W (isF_nil.2 rfl) (HPT.out W hW)).mono fun e w' h => ⟨h.1.trans (by rw [right_nil]; rfl), h.2⟩
                  have HB7 : Hid (∀ W, Below w.heap.size w W → Calls Tryd.prog 8 #[.iface 30 (.int .i64 7), .int .i64 7] W fun x w' => x = .returned (.bool true) ∧ Below W.heap.size W w') := fun W hW => (bare_any (some 7) 7 W (HDR.out W hW)).mono fun e w' h => ⟨h.1.trans (by simp [num]), h.2⟩
                  clear HPG HFG HPR
                  rcases hx with ⟨tv, vv, rfl⟩ | rfl
                  all_goals
                    go_wp2_with fail
                    refine HR1.out.mono ?_
                    rintro e w5 ⟨rfl, hb5⟩
                    have HW5 := hide hb5
                    have HB5 := hide (then_ HBG.out hb5)
                    have HC5 := hide (HBR.out w5 HB5.out)
                    clear hb5 HR1 HBR
                    go_wp2_with fail
                    refine HC5.out.mono ?_
                    rintro e w6 ⟨rfl, hb6⟩
                    have HW6 := hide (then_ HW5.out hb6)
                    have HB6 := hide (then_ HB5.out hb6)
                    have HC6 := hide (HRP.out w6 HW6.out)
                    clear hb6 HC5 HRP
                    go_wp2_with fail
                    refine HC6.out.mono ?_
                    rintro e w7 ⟨rfl, hb7⟩
                    have HBB7 := hide (then_ HB6.out hb7)
                    have HC7 := hide (HB7.out w7 HBB7.out)
                    clear hb7 HC6
                    go_wp2_with fail
                    refine HC7.out.mono ?_
                    rintro e w8 ⟨rfl, hb8⟩
                    have HBB8 := hide (then_ HBB7.out hb8)
                    have HC8 := hide (HRN.out w8 HBB8.out)
                    clear hb8 HC7 HRN
                    go_wp2_with fail
                    refine HC8.out.mono ?_
                    rintro e w9 ⟨rfl, hb9⟩
                    have HBB9 := hide (then_ HBB8.out hb9)
                    have HC9 := hide (HB7.out w9 HBB9.out)
                    clear hb9 HC8 HB7
                    go_wp2_with fail
                    refine HC9.out.mono ?_
                    rintro e w10 ⟨rfl, hb10⟩
                    have HBB10 := hide (then_ HBB9.out hb10)
                    clear hb10 HC9
                    go_wp2_with fail
                    go_ret
                    exact ⟨rfl, HBB10.out⟩
              · have hAi : ¬ (20 : Int) < (i : Int) + 1 := by omega
                have hBi : ((ow : Int) == 0) = false := by simp; omega
                have HK4 : Hid (Value.int IntKind.i64 (ow : Int) = .int .i64 (ask : Int)) := by show _ = _; rw [HAK.out, if_neg (by omega)]
                go_upto_region 22 with fail
                go_cut [14, 16] from 80 (fun e g wx => e = .int .i64 (ask : Int) ∧ ∃ b, g = .pointer (some ⟨b, 0, none⟩) ∧ Hid (IsF (fun _ => True) wx pairN (.pointer (some ⟨b, 0, none⟩))) ∧ Hid (IsF (fun _ => True) wx xx (.pointer p)) ∧ Hid (Below w.heap.size w wx))
                case first =>
                  go_wp2_with fail
                  go_meet
                  exact ⟨HK4.out, _, rfl, HPM.out.1, HFY.out, HPX.out⟩
                case rest =>
                  obtain ⟨rfl, b, rfl, HPG, HFG, HBG⟩ := hcut
                  clear HK4 HPM HFY HPX HFX HAK
                  have HR1 := hide (Right_any xx _ wc HFG.out (HPT.out wc HBG.out))
                  have HBR : Hid (∀ W, Below w.heap.size w W → Calls Tryd.prog 8 #[errV (right xx), .int .i64 (ask : Int)] W fun x w' => x = .returned (.bool true) ∧ Below W.heap.size W w') := fun W hW => (bare_any (right xx) ask W (HDR.out W hW)).mono fun e w' h => ⟨h.1.trans (by rw [HRA.out]; simp), h.2⟩
                  have hx : (∃ t v, errV (right xx) = .iface t v) ∨ errV (right xx) = .nilIface := by
                    cases right xx with
                    | none => exact .inr rfl
                    | some k => exact .inl ⟨_, _, rfl⟩
                  generalize errV (right xx) = ev at *
                  have HRP : Hid (∀ W, Below wc.heap.size wc W → Calls Tryd.prog 15 #[.pointer (some ⟨b, 0, none⟩)] W fun e w' => e = .returned (.iface 30 (.int .i64 7)) ∧ Below W.heap.size W w') := fun W hW => (Right_any pairN _ W (HPG.out.below hW) (HPT.out W (then_ HBG.out hW))).mono fun e w' h => ⟨h.1.trans (by rw [HPR.out]; rfl), h.2⟩
                  have HRN : Hid (∀ W, Below w.heap.size w W → Calls Tryd.prog 15 #[.pointer none] W fun e w' => e = .returned (.iface 30 (.int .i64 7)) ∧ Below W.heap.size W w') := fun W hW => (Right_any nilF _ W (isF_nil.2 rfl) (HPT.out W hW)).mono fun e w' h => ⟨h.1.trans (by rw [right_nil]; rfl), h.2⟩
                  have HB7 : Hid (∀ W, Below w.heap.size w W → Calls Tryd.prog 8 #[.iface 30 (.int .i64 7), .int .i64 7] W fun x w' => x = .returned (.bool true) ∧ Below W.heap.size W w') := fun W hW => (bare_any (some 7) 7 W (HDR.out W hW)).mono fun e w' h => ⟨h.1.trans (by simp [num]), h.2⟩
                  clear HPG HFG HPR
                  rcases hx with ⟨tv, vv, rfl⟩ | rfl
                  all_goals
                    go_wp2_with fail
                    refine HR1.out.mono ?_
                    rintro e w5 ⟨rfl, hb5⟩
                    have HW5 := hide hb5
                    have HB5 := hide (then_ HBG.out hb5)
                    have HC5 := hide (HBR.out w5 HB5.out)
                    clear hb5 HR1 HBR
                    go_wp2_with fail
                    refine HC5.out.mono ?_
                    rintro e w6 ⟨rfl, hb6⟩
                    have HW6 := hide (then_ HW5.out hb6)
                    have HB6 := hide (then_ HB5.out hb6)
                    have HC6 := hide (HRP.out w6 HW6.out)
                    clear hb6 HC5 HRP
                    go_wp2_with fail
                    refine HC6.out.mono ?_
                    rintro e w7 ⟨rfl, hb7⟩
                    have HBB7 := hide (then_ HB6.out hb7)
                    have HC7 := hide (HB7.out w7 HBB7.out)
                    clear hb7 HC6
                    go_wp2_with fail
                    refine HC7.out.mono ?_
                    rintro e w8 ⟨rfl, hb8⟩
                    have HBB8 := hide (then_ HBB7.out hb8)
                    have HC8 := hide (HRN.out w8 HBB8.out)
                    clear hb8 HC7 HRN
                    go_wp2_with fail
                    refine HC8.out.mono ?_
                    rintro e w9 ⟨rfl, hb9⟩
                    have HBB9 := hide (then_ HBB8.out hb9)
                    have HC9 := hide (HB7.out w9 HBB9.out)
                    clear hb9 HC8 HB7
                    go_wp2_with fail
                    refine HC9.out.mono ?_
                    rintro e w10 ⟨rfl, hb10⟩
                    have HBB10 := hide (then_ HBB9.out hb10)
                    clear hb10 HC9
                    go_wp2_with fail
                    go_ret
                    exact ⟨rfl, HBB10.out⟩
      · have HE : Hid (Value.int IntKind.i64 5 = .int .i64 (ow : Int)) := by show _ = _; rw [HO.out]; rfl
        rw [bytes_list, hnn] at HNC
        go_upto_region 16 with (go_at_call 19; refine HNC.out.mono ?_; rintro e w' ⟨rfl, hw⟩; obtain rfl := hw.symm)
        go_cut [14, 15] from 48 (fun e z wx => e = .int .i64 (ow : Int) ∧ z = .int .i64 0 ∧ Hid (wx = W10))
        case first =>
          go_wp2_with fail
          go_meet
          exact ⟨HE.out, rfl, rfl⟩
        case rest =>
          obtain ⟨rfl, rfl, hwc⟩ := hcut
          have hwc' := hwc.out
          subst hwc'
          clear hwc HE HO
          go_wp2_with fail
          go_loopw [15, 9] (fun iv fv wx => ∃ (i : Nat) (p : Option Addr), i ≤ d ∧ iv = .int .i64 (i : Int) ∧ fv = .pointer p ∧ Hid (IsF (fun _ => True) wx (nots i (root 1 nm j)) (.pointer p)) ∧ Hid (Below w.heap.size w wx)) (fun iv _ _ => d - (intOf iv).toNat)
          case atStart => exact ⟨0, _, Nat.zero_le _, rfl, rfl, HF10.out, HB10.out⟩
          case round =>
            obtain ⟨i, p, hi, rfl, rfl, HFX, HBX⟩ := hrel
            by_cases hlt : i < d
            · have hii : (i : Int) < (d : Int) := by omega
              have HWR := hide (wrapped HFX.out)
              go_wp2_with fail
              go_roundw
              case rel => exact ⟨i + 1, _, by omega, by go_num, rfl, HWR.out.1, then_ HBX.out HWR.out.2⟩
              case measure => simp [intOf]; omega
            · have hid : i = d := by omega
              subst hid
              have hii : ¬ (i : Int) < (i : Int) := by omega
              have HPM := hide (pair_made wr)
              obtain ⟨ask, hask⟩ : ∃ ask, ask = askN 1 nm j i := ⟨_, rfl⟩
              have HAK : Hid (ask = if 20 < i + 1 ∨ (ow = 0 ∧ 0 < j ∧ 20 < i + 2) then 4 else ow) := by show _ = _; rw [hask, HOW.out]; rfl
              have HRA : Hid (num (right (nots i (root 1 nm j))) = ask) := HNR.out.trans hask.symm
              have HPR : Hid (right pairN = some 7) := right_pair
              have HPX : Hid (Below w.heap.size w (((wr.alloc (.cells #[.int .i64 2, .string ⟨#[]⟩, .slice none 0 0] 54)).alloc (.cells #[.pointer (some ⟨wr.heap.size, 0, none⟩), .pointer none] 40)).alloc (.cells #[.int .i64 4, .string ⟨#[]⟩, .slice (some ⟨wr.heap.size + 1, 0, none⟩) 2 2] 54))) := then_ HBX.out HPM.out.2
              have HFY := hide (HFX.out.below HPM.out.2)
              clear hask HNR
              have hlo : ow ≤ 9 := by
                have := HLO.out
                exact this
              generalize nots i (root 1 nm j) = xx at *
              have hfive : (20 < i + 1) ∨ (¬ 20 < i + 1 ∧ ow = 0 ∧ 0 < j ∧ 20 < i + 2) ∨ (¬ 20 < i + 1 ∧ ow = 0 ∧ 0 < j ∧ ¬ 20 < i + 2) ∨ (¬ 20 < i + 1 ∧ ow = 0 ∧ ¬ 0 < j) ∨ (¬ 20 < i + 1 ∧ ow ≠ 0) := by omega
              rcases hfive with hA | ⟨hA, hB, hC, hE⟩ | ⟨hA, hB, hC, hE⟩ | ⟨hA, hB, hC⟩ | ⟨hA, hB⟩
              · have hAi : (20 : Int) < (i : Int) + 1 := by omega
                have HK4 : Hid (Value.int IntKind.i64 4 = .int .i64 (ask : Int)) := by show _ = _; rw [HAK.out, if_pos (.inl hA)]; rfl
                go_upto_region 22 with fail
                go_cut [14, 16] from 80 (fun e g wx => e = .int .i64 (ask : Int) ∧ ∃ b, g = .pointer (some ⟨b, 0, none⟩) ∧ Hid (IsF (fun _ => True) wx pairN (.pointer (some ⟨b, 0, none⟩))) ∧ Hid (IsF (fun _ => True) wx xx (.pointer p)) ∧ Hid (Below w.heap.size w wx))
                case first =>
                  go_wp2_with fail
                  go_meet
                  exact ⟨HK4.out, _, rfl, HPM.out.1, HFY.out, HPX.out⟩
                case rest =>
                  obtain ⟨rfl, b, rfl, HPG, HFG, HBG⟩ := hcut
                  clear HK4 HPM HFY HPX HFX HAK
                  have HR1 := hide (Right_any xx _ wc HFG.out (HPT.out wc HBG.out))
                  have HBR : Hid (∀ W, Below w.heap.size w W → Calls Tryd.prog 8 #[errV (right xx), .int .i64 (ask : Int)] W fun x w' => x = .returned (.bool true) ∧ Below W.heap.size W w') := fun W hW => (bare_any (right xx) ask W (HDR.out W hW)).mono fun e w' h => ⟨h.1.trans (by rw [HRA.out]; simp), h.2⟩
                  have hx : (∃ t v, errV (right xx) = .iface t v) ∨ errV (right xx) = .nilIface := by
                    cases right xx with
                    | none => exact .inr rfl
                    | some k => exact .inl ⟨_, _, rfl⟩
                  generalize errV (right xx) = ev at *
                  have HRP : Hid (∀ W, Below wc.heap.size wc W → Calls Tryd.prog 15 #[.pointer (some ⟨b, 0, none⟩)] W fun e w' => e = .returned (.iface 30 (.int .i64 7)) ∧ Below W.heap.size W w') := fun W hW => (Right_any pairN _ W (HPG.out.below hW) (HPT.out W (then_ HBG.out hW))).mono fun e w' h => ⟨h.1.trans (by rw [HPR.out]; rfl), h.2⟩
                  have HRN : Hid (∀ W, Below w.heap.size w W → Calls Tryd.prog 15 #[.pointer none] W fun e w' => e = .returned (.iface 30 (.int .i64 7)) ∧ Below W.heap.size W w') := fun W hW => (Right_any nilF _ W (isF_nil.2 rfl) (HPT.out W hW)).mono fun e w' h => ⟨h.1.trans (by rw [right_nil]; rfl), h.2⟩
                  have HB7 : Hid (∀ W, Below w.heap.size w W → Calls Tryd.prog 8 #[.iface 30 (.int .i64 7), .int .i64 7] W fun x w' => x = .returned (.bool true) ∧ Below W.heap.size W w') := fun W hW => (bare_any (some 7) 7 W (HDR.out W hW)).mono fun e w' h => ⟨h.1.trans (by simp [num]), h.2⟩
                  clear HPG HFG HPR
                  rcases hx with ⟨tv, vv, rfl⟩ | rfl
                  all_goals
                    go_wp2_with fail
                    refine HR1.out.mono ?_
                    rintro e w5 ⟨rfl, hb5⟩
                    have HW5 := hide hb5
                    have HB5 := hide (then_ HBG.out hb5)
                    have HC5 := hide (HBR.out w5 HB5.out)
                    clear hb5 HR1 HBR
                    go_wp2_with fail
                    refine HC5.out.mono ?_
                    rintro e w6 ⟨rfl, hb6⟩
                    have HW6 := hide (then_ HW5.out hb6)
                    have HB6 := hide (then_ HB5.out hb6)
                    have HC6 := hide (HRP.out w6 HW6.out)
                    clear hb6 HC5 HRP
                    go_wp2_with fail
                    refine HC6.out.mono ?_
                    rintro e w7 ⟨rfl, hb7⟩
                    have HBB7 := hide (then_ HB6.out hb7)
                    have HC7 := hide (HB7.out w7 HBB7.out)
                    clear hb7 HC6
                    go_wp2_with fail
                    refine HC7.out.mono ?_
                    rintro e w8 ⟨rfl, hb8⟩
                    have HBB8 := hide (then_ HBB7.out hb8)
                    have HC8 := hide (HRN.out w8 HBB8.out)
                    clear hb8 HC7 HRN
                    go_wp2_with fail
                    refine HC8.out.mono ?_
                    rintro e w9 ⟨rfl, hb9⟩
                    have HBB9 := hide (then_ HBB8.out hb9)
                    have HC9 := hide (HB7.out w9 HBB9.out)
                    clear hb9 HC8 HB7
                    go_wp2_with fail
                    refine HC9.out.mono ?_
                    rintro e w10 ⟨rfl, hb10⟩
                    have HBB10 := hide (then_ HBB9.out hb10)
                    clear hb10 HC9
                    go_wp2_with fail
                    go_ret
                    exact ⟨rfl, HBB10.out⟩
              · have hAi : ¬ (20 : Int) < (i : Int) + 1 := by omega
                have hBi : ((ow : Int) == 0) = true := by simp [hB]
                have hCi : (0 : Int) < (j : Int) := by omega
                have hEi : (20 : Int) < (i : Int) + 2 := by omega
                have HK4 : Hid (Value.int IntKind.i64 4 = .int .i64 (ask : Int)) := by show _ = _; rw [HAK.out, if_pos (.inr ⟨hB, hC, hE⟩)]; rfl
                go_upto_region 22 with fail
                go_cut [14, 16] from 80 (fun e g wx => e = .int .i64 (ask : Int) ∧ ∃ b, g = .pointer (some ⟨b, 0, none⟩) ∧ Hid (IsF (fun _ => True) wx pairN (.pointer (some ⟨b, 0, none⟩))) ∧ Hid (IsF (fun _ => True) wx xx (.pointer p)) ∧ Hid (Below w.heap.size w wx))
                case first =>
                  go_wp2_with fail
                  go_meet
                  exact ⟨HK4.out, _, rfl, HPM.out.1, HFY.out, HPX.out⟩
                case rest =>
                  obtain ⟨rfl, b, rfl, HPG, HFG, HBG⟩ := hcut
                  clear HK4 HPM HFY HPX HFX HAK
                  have HR1 := hide (Right_any xx _ wc HFG.out (HPT.out wc HBG.out))
                  have HBR : Hid (∀ W, Below w.heap.size w W → Calls Tryd.prog 8 #[errV (right xx), .int .i64 (ask : Int)] W fun x w' => x = .returned (.bool true) ∧ Below W.heap.size W w') := fun W hW => (bare_any (right xx) ask W (HDR.out W hW)).mono fun e w' h => ⟨h.1.trans (by rw [HRA.out]; simp), h.2⟩
                  have hx : (∃ t v, errV (right xx) = .iface t v) ∨ errV (right xx) = .nilIface := by
                    cases right xx with
                    | none => exact .inr rfl
                    | some k => exact .inl ⟨_, _, rfl⟩
                  generalize errV (right xx) = ev at *
                  have HRP : Hid (∀ W, Below wc.heap.size wc W → Calls Tryd.prog 15 #[.pointer (some ⟨b, 0, none⟩)] W fun e w' => e = .returned (.iface 30 (.int .i64 7)) ∧ Below W.heap.size W w') := fun W hW => (Right_any pairN _ W (HPG.out.below hW) (HPT.out W (then_ HBG.out hW))).mono fun e w' h => ⟨h.1.trans (by rw [HPR.out]; rfl), h.2⟩
                  have HRN : Hid (∀ W, Below w.heap.size w W → Calls Tryd.prog 15 #[.pointer none] W fun e w' => e = .returned (.iface 30 (.int .i64 7)) ∧ Below W.heap.size W w') := fun W hW => (Right_any nilF _ W (isF_nil.2 rfl) (HPT.out W hW)).mono fun e w' h => ⟨h.1.trans (by rw [right_nil]; rfl), h.2⟩
                  have HB7 : Hid (∀ W, Below w.heap.size w W → Calls Tryd.prog 8 #[.iface 30 (.int .i64 7), .int .i64 7] W fun x w' => x = .returned (.bool true) ∧ Below W.heap.size W w') := fun W hW => (bare_any (some 7) 7 W (HDR.out W hW)).mono fun e w' h => ⟨h.1.trans (by simp [num]), h.2⟩
                  clear HPG HFG HPR
                  rcases hx with ⟨tv, vv, rfl⟩ | rfl
                  all_goals
                    go_wp2_with fail
                    refine HR1.out.mono ?_
                    rintro e w5 ⟨rfl, hb5⟩
                    have HW5 := hide hb5
                    have HB5 := hide (then_ HBG.out hb5)
                    have HC5 := hide (HBR.out w5 HB5.out)
                    clear hb5 HR1 HBR
                    go_wp2_with fail
                    refine HC5.out.mono ?_
                    rintro e w6 ⟨rfl, hb6⟩
                    have HW6 := hide (then_ HW5.out hb6)
                    have HB6 := hide (then_ HB5.out hb6)
                    have HC6 := hide (HRP.out w6 HW6.out)
                    clear hb6 HC5 HRP
                    go_wp2_with fail
                    refine HC6.out.mono ?_
                    rintro e w7 ⟨rfl, hb7⟩
                    have HBB7 := hide (then_ HB6.out hb7)
                    have HC7 := hide (HB7.out w7 HBB7.out)
                    clear hb7 HC6
                    go_wp2_with fail
                    refine HC7.out.mono ?_
                    rintro e w8 ⟨rfl, hb8⟩
                    have HBB8 := hide (then_ HBB7.out hb8)
                    have HC8 := hide (HRN.out w8 HBB8.out)
                    clear hb8 HC7 HRN
                    go_wp2_with fail
                    refine HC8.out.mono ?_
                    rintro e w9 ⟨rfl, hb9⟩
                    have HBB9 := hide (then_ HBB8.out hb9)
                    have HC9 := hide (HB7.out w9 HBB9.out)
                    clear hb9 HC8 HB7
                    go_wp2_with fail
                    refine HC9.out.mono ?_
                    rintro e w10 ⟨rfl, hb10⟩
                    have HBB10 := hide (then_ HBB9.out hb10)
                    clear hb10 HC9
                    go_wp2_with fail
                    go_ret
                    exact ⟨rfl, HBB10.out⟩
              · have hAi : ¬ (20 : Int) < (i : Int) + 1 := by omega
                have hBi : ((ow : Int) == 0) = true := by simp [hB]
                have hCi : (0 : Int) < (j : Int) := by omega
                have hEi : ¬ (20 : Int) < (i : Int) + 2 := by omega
                have HK4 : Hid (Value.int IntKind.i64 0 = .int .i64 (ask : Int)) := by show _ = _; rw [HAK.out, if_neg (by omega), hB]; rfl
                go_upto_region 22 with fail
                go_cut [14, 16] from 80 (fun e g wx => e = .int .i64 (ask : Int) ∧ ∃ b, g = .pointer (some ⟨b, 0, none⟩) ∧ Hid (IsF (fun _ => True) wx pairN (.pointer (some ⟨b, 0, none⟩))) ∧ Hid (IsF (fun _ => True) wx xx (.pointer p)) ∧ Hid (Below w.heap.size w wx))
                case first =>
                  go_wp2_with fail
                  go_meet
                  exact ⟨HK4.out, _, rfl, HPM.out.1, HFY.out, HPX.out⟩
                case rest =>
                  obtain ⟨rfl, b, rfl, HPG, HFG, HBG⟩ := hcut
                  clear HK4 HPM HFY HPX HFX HAK
                  have HR1 := hide (Right_any xx _ wc HFG.out (HPT.out wc HBG.out))
                  have HBR : Hid (∀ W, Below w.heap.size w W → Calls Tryd.prog 8 #[errV (right xx), .int .i64 (ask : Int)] W fun x w' => x = .returned (.bool true) ∧ Below W.heap.size W w') := fun W hW => (bare_any (right xx) ask W (HDR.out W hW)).mono fun e w' h => ⟨h.1.trans (by rw [HRA.out]; simp), h.2⟩
                  have hx : (∃ t v, errV (right xx) = .iface t v) ∨ errV (right xx) = .nilIface := by
                    cases right xx with
                    | none => exact .inr rfl
                    | some k => exact .inl ⟨_, _, rfl⟩
                  generalize errV (right xx) = ev at *
                  have HRP : Hid (∀ W, Below wc.heap.size wc W → Calls Tryd.prog 15 #[.pointer (some ⟨b, 0, none⟩)] W fun e w' => e = .returned (.iface 30 (.int .i64 7)) ∧ Below W.heap.size W w') := fun W hW => (Right_any pairN _ W (HPG.out.below hW) (HPT.out W (then_ HBG.out hW))).mono fun e w' h => ⟨h.1.trans (by rw [HPR.out]; rfl), h.2⟩
                  have HRN : Hid (∀ W, Below w.heap.size w W → Calls Tryd.prog 15 #[.pointer none] W fun e w' => e = .returned (.iface 30 (.int .i64 7)) ∧ Below W.heap.size W w') := fun W hW => (Right_any nilF _ W (isF_nil.2 rfl) (HPT.out W hW)).mono fun e w' h => ⟨h.1.trans (by rw [right_nil]; rfl), h.2⟩
                  have HB7 : Hid (∀ W, Below w.heap.size w W → Calls Tryd.prog 8 #[.iface 30 (.int .i64 7), .int .i64 7] W fun x w' => x = .returned (.bool true) ∧ Below W.heap.size W w') := fun W hW => (bare_any (some 7) 7 W (HDR.out W hW)).mono fun e w' h => ⟨h.1.trans (by simp [num]), h.2⟩
                  clear HPG HFG HPR
                  rcases hx with ⟨tv, vv, rfl⟩ | rfl
                  all_goals
                    go_wp2_with fail
                    refine HR1.out.mono ?_
                    rintro e w5 ⟨rfl, hb5⟩
                    have HW5 := hide hb5
                    have HB5 := hide (then_ HBG.out hb5)
                    have HC5 := hide (HBR.out w5 HB5.out)
                    clear hb5 HR1 HBR
                    go_wp2_with fail
                    refine HC5.out.mono ?_
                    rintro e w6 ⟨rfl, hb6⟩
                    have HW6 := hide (then_ HW5.out hb6)
                    have HB6 := hide (then_ HB5.out hb6)
                    have HC6 := hide (HRP.out w6 HW6.out)
                    clear hb6 HC5 HRP
                    go_wp2_with fail
                    refine HC6.out.mono ?_
                    rintro e w7 ⟨rfl, hb7⟩
                    have HBB7 := hide (then_ HB6.out hb7)
                    have HC7 := hide (HB7.out w7 HBB7.out)
                    clear hb7 HC6
                    go_wp2_with fail
                    refine HC7.out.mono ?_
                    rintro e w8 ⟨rfl, hb8⟩
                    have HBB8 := hide (then_ HBB7.out hb8)
                    have HC8 := hide (HRN.out w8 HBB8.out)
                    clear hb8 HC7 HRN
                    go_wp2_with fail
                    refine HC8.out.mono ?_
                    rintro e w9 ⟨rfl, hb9⟩
                    have HBB9 := hide (then_ HBB8.out hb9)
                    have HC9 := hide (HB7.out w9 HBB9.out)
                    clear hb9 HC8 HB7
                    go_wp2_with fail
                    refine HC9.out.mono ?_
                    rintro e w10 ⟨rfl, hb10⟩
                    have HBB10 := hide (then_ HBB9.out hb10)
                    clear hb10 HC9
                    go_wp2_with fail
                    go_ret
                    exact ⟨rfl, HBB10.out⟩
              · have hAi : ¬ (20 : Int) < (i : Int) + 1 := by omega
                have hBi : ((ow : Int) == 0) = true := by simp [hB]
                have hCi : ¬ (0 : Int) < (j : Int) := by omega
                have HK4 : Hid (Value.int IntKind.i64 0 = .int .i64 (ask : Int)) := by show _ = _; rw [HAK.out, if_neg (by omega), hB]; rfl
                go_upto_region 22 with fail
                go_cut [14, 16] from 80 (fun e g wx => e = .int .i64 (ask : Int) ∧ ∃ b, g = .pointer (some ⟨b, 0, none⟩) ∧ Hid (IsF (fun _ => True) wx pairN (.pointer (some ⟨b, 0, none⟩))) ∧ Hid (IsF (fun _ => True) wx xx (.pointer p)) ∧ Hid (Below w.heap.size w wx))
                case first =>
                  go_wp2_with fail
                  go_meet
                  exact ⟨HK4.out, _, rfl, HPM.out.1, HFY.out, HPX.out⟩
                case rest =>
                  obtain ⟨rfl, b, rfl, HPG, HFG, HBG⟩ := hcut
                  clear HK4 HPM HFY HPX HFX HAK
                  have HR1 := hide (Right_any xx _ wc HFG.out (HPT.out wc HBG.out))
                  have HBR : Hid (∀ W, Below w.heap.size w W → Calls Tryd.prog 8 #[errV (right xx), .int .i64 (ask : Int)] W fun x w' => x = .returned (.bool true) ∧ Below W.heap.size W w') := fun W hW => (bare_any (right xx) ask W (HDR.out W hW)).mono fun e w' h => ⟨h.1.trans (by rw [HRA.out]; simp), h.2⟩
                  have hx : (∃ t v, errV (right xx) = .iface t v) ∨ errV (right xx) = .nilIface := by
                    cases right xx with
                    | none => exact .inr rfl
                    | some k => exact .inl ⟨_, _, rfl⟩
                  generalize errV (right xx) = ev at *
                  have HRP : Hid (∀ W, Below wc.heap.size wc W → Calls Tryd.prog 15 #[.pointer (some ⟨b, 0, none⟩)] W fun e w' => e = .returned (.iface 30 (.int .i64 7)) ∧ Below W.heap.size W w') := fun W hW => (Right_any pairN _ W (HPG.out.below hW) (HPT.out W (then_ HBG.out hW))).mono fun e w' h => ⟨h.1.trans (by rw [HPR.out]; rfl), h.2⟩
                  have HRN : Hid (∀ W, Below w.heap.size w W → Calls Tryd.prog 15 #[.pointer none] W fun e w' => e = .returned (.iface 30 (.int .i64 7)) ∧ Below W.heap.size W w') := fun W hW => (Right_any nilF _ W (isF_nil.2 rfl) (HPT.out W hW)).mono fun e w' h => ⟨h.1.trans (by rw [right_nil]; rfl), h.2⟩
                  have HB7 : Hid (∀ W, Below w.heap.size w W → Calls Tryd.prog 8 #[.iface 30 (.int .i64 7), .int .i64 7] W fun x w' => x = .returned (.bool true) ∧ Below W.heap.size W w') := fun W hW => (bare_any (some 7) 7 W (HDR.out W hW)).mono fun e w' h => ⟨h.1.trans (by simp [num]), h.2⟩
                  clear HPG HFG HPR
                  rcases hx with ⟨tv, vv, rfl⟩ | rfl
                  all_goals
                    go_wp2_with fail
                    refine HR1.out.mono ?_
                    rintro e w5 ⟨rfl, hb5⟩
                    have HW5 := hide hb5
                    have HB5 := hide (then_ HBG.out hb5)
                    have HC5 := hide (HBR.out w5 HB5.out)
                    clear hb5 HR1 HBR
                    go_wp2_with fail
                    refine HC5.out.mono ?_
                    rintro e w6 ⟨rfl, hb6⟩
                    have HW6 := hide (then_ HW5.out hb6)
                    have HB6 := hide (then_ HB5.out hb6)
                    have HC6 := hide (HRP.out w6 HW6.out)
                    clear hb6 HC5 HRP
                    go_wp2_with fail
                    refine HC6.out.mono ?_
                    rintro e w7 ⟨rfl, hb7⟩
                    have HBB7 := hide (then_ HB6.out hb7)
                    have HC7 := hide (HB7.out w7 HBB7.out)
                    clear hb7 HC6
                    go_wp2_with fail
                    refine HC7.out.mono ?_
                    rintro e w8 ⟨rfl, hb8⟩
                    have HBB8 := hide (then_ HBB7.out hb8)
                    have HC8 := hide (HRN.out w8 HBB8.out)
                    clear hb8 HC7 HRN
                    go_wp2_with fail
                    refine HC8.out.mono ?_
                    rintro e w9 ⟨rfl, hb9⟩
                    have HBB9 := hide (then_ HBB8.out hb9)
                    have HC9 := hide (HB7.out w9 HBB9.out)
                    clear hb9 HC8 HB7
                    go_wp2_with fail
                    refine HC9.out.mono ?_
                    rintro e w10 ⟨rfl, hb10⟩
                    have HBB10 := hide (then_ HBB9.out hb10)
                    clear hb10 HC9
                    go_wp2_with fail
                    go_ret
                    exact ⟨rfl, HBB10.out⟩
              · have hAi : ¬ (20 : Int) < (i : Int) + 1 := by omega
                have hBi : ((ow : Int) == 0) = false := by simp; omega
                have HK4 : Hid (Value.int IntKind.i64 (ow : Int) = .int .i64 (ask : Int)) := by show _ = _; rw [HAK.out, if_neg (by omega)]
                go_upto_region 22 with fail
                go_cut [14, 16] from 80 (fun e g wx => e = .int .i64 (ask : Int) ∧ ∃ b, g = .pointer (some ⟨b, 0, none⟩) ∧ Hid (IsF (fun _ => True) wx pairN (.pointer (some ⟨b, 0, none⟩))) ∧ Hid (IsF (fun _ => True) wx xx (.pointer p)) ∧ Hid (Below w.heap.size w wx))
                case first =>
                  go_wp2_with fail
                  go_meet
                  exact ⟨HK4.out, _, rfl, HPM.out.1, HFY.out, HPX.out⟩
                case rest =>
                  obtain ⟨rfl, b, rfl, HPG, HFG, HBG⟩ := hcut
                  clear HK4 HPM HFY HPX HFX HAK
                  have HR1 := hide (Right_any xx _ wc HFG.out (HPT.out wc HBG.out))
                  have HBR : Hid (∀ W, Below w.heap.size w W → Calls Tryd.prog 8 #[errV (right xx), .int .i64 (ask : Int)] W fun x w' => x = .returned (.bool true) ∧ Below W.heap.size W w') := fun W hW => (bare_any (right xx) ask W (HDR.out W hW)).mono fun e w' h => ⟨h.1.trans (by rw [HRA.out]; simp), h.2⟩
                  have hx : (∃ t v, errV (right xx) = .iface t v) ∨ errV (right xx) = .nilIface := by
                    cases right xx with
                    | none => exact .inr rfl
                    | some k => exact .inl ⟨_, _, rfl⟩
                  generalize errV (right xx) = ev at *
                  have HRP : Hid (∀ W, Below wc.heap.size wc W → Calls Tryd.prog 15 #[.pointer (some ⟨b, 0, none⟩)] W fun e w' => e = .returned (.iface 30 (.int .i64 7)) ∧ Below W.heap.size W w') := fun W hW => (Right_any pairN _ W (HPG.out.below hW) (HPT.out W (then_ HBG.out hW))).mono fun e w' h => ⟨h.1.trans (by rw [HPR.out]; rfl), h.2⟩
                  have HRN : Hid (∀ W, Below w.heap.size w W → Calls Tryd.prog 15 #[.pointer none] W fun e w' => e = .returned (.iface 30 (.int .i64 7)) ∧ Below W.heap.size W w') := fun W hW => (Right_any nilF _ W (isF_nil.2 rfl) (HPT.out W hW)).mono fun e w' h => ⟨h.1.trans (by rw [right_nil]; rfl), h.2⟩
                  have HB7 : Hid (∀ W, Below w.heap.size w W → Calls Tryd.prog 8 #[.iface 30 (.int .i64 7), .int .i64 7] W fun x w' => x = .returned (.bool true) ∧ Below W.heap.size W w') := fun W hW => (bare_any (some 7) 7 W (HDR.out W hW)).mono fun e w' h => ⟨h.1.trans (by simp [num]), h.2⟩
                  clear HPG HFG HPR
                  rcases hx with ⟨tv, vv, rfl⟩ | rfl
                  all_goals
                    go_wp2_with fail
                    refine HR1.out.mono ?_
                    rintro e w5 ⟨rfl, hb5⟩
                    have HW5 := hide hb5
                    have HB5 := hide (then_ HBG.out hb5)
                    have HC5 := hide (HBR.out w5 HB5.out)
                    clear hb5 HR1 HBR
                    go_wp2_with fail
                    refine HC5.out.mono ?_
                    rintro e w6 ⟨rfl, hb6⟩
                    have HW6 := hide (then_ HW5.out hb6)
                    have HB6 := hide (then_ HB5.out hb6)
                    have HC6 := hide (HRP.out w6 HW6.out)
                    clear hb6 HC5 HRP
                    go_wp2_with fail
                    refine HC6.out.mono ?_
                    rintro e w7 ⟨rfl, hb7⟩
                    have HBB7 := hide (then_ HB6.out hb7)
                    have HC7 := hide (HB7.out w7 HBB7.out)
                    clear hb7 HC6
                    go_wp2_with fail
                    refine HC7.out.mono ?_
                    rintro e w8 ⟨rfl, hb8⟩
                    have HBB8 := hide (then_ HBB7.out hb8)
                    have HC8 := hide (HRN.out w8 HBB8.out)
                    clear hb8 HC7 HRN
                    go_wp2_with fail
                    refine HC8.out.mono ?_
                    rintro e w9 ⟨rfl, hb9⟩
                    have HBB9 := hide (then_ HBB8.out hb9)
                    have HC9 := hide (HB7.out w9 HBB9.out)
                    clear hb9 HC8 HB7
                    go_wp2_with fail
                    refine HC9.out.mono ?_
                    rintro e w10 ⟨rfl, hb10⟩
                    have HBB10 := hide (then_ HBB9.out hb10)
                    clear hb10 HC9
                    go_wp2_with fail
                    go_ret
                    exact ⟨rfl, HBB10.out⟩
      · have HE : Hid (Value.int IntKind.i64 0 = .int .i64 (ow : Int)) := by show _ = _; rw [HO.out]; rfl
        rw [bytes_list, hnn] at HNC
        go_upto_region 16 with (go_at_call 19; refine HNC.out.mono ?_; rintro e w' ⟨rfl, hw⟩; obtain rfl := hw.symm)
        go_cut [14, 15] from 48 (fun e z wx => e = .int .i64 (ow : Int) ∧ z = .int .i64 0 ∧ Hid (wx = W10))
        case first =>
          go_wp2_with fail
          go_meet
          exact ⟨HE.out, rfl, rfl⟩
        case rest =>
          obtain ⟨rfl, rfl, hwc⟩ := hcut
          have hwc' := hwc.out
          subst hwc'
          clear hwc HE HO
          go_wp2_with fail
          go_loopw [15, 9] (fun iv fv wx => ∃ (i : Nat) (p : Option Addr), i ≤ d ∧ iv = .int .i64 (i : Int) ∧ fv = .pointer p ∧ Hid (IsF (fun _ => True) wx (nots i (root 1 nm j)) (.pointer p)) ∧ Hid (Below w.heap.size w wx)) (fun iv _ _ => d - (intOf iv).toNat)
          case atStart => exact ⟨0, _, Nat.zero_le _, rfl, rfl, HF10.out, HB10.out⟩
          case round =>
            obtain ⟨i, p, hi, rfl, rfl, HFX, HBX⟩ := hrel
            by_cases hlt : i < d
            · have hii : (i : Int) < (d : Int) := by omega
              have HWR := hide (wrapped HFX.out)
              go_wp2_with fail
              go_roundw
              case rel => exact ⟨i + 1, _, by omega, by go_num, rfl, HWR.out.1, then_ HBX.out HWR.out.2⟩
              case measure => simp [intOf]; omega
            · have hid : i = d := by omega
              subst hid
              have hii : ¬ (i : Int) < (i : Int) := by omega
              have HPM := hide (pair_made wr)
              obtain ⟨ask, hask⟩ : ∃ ask, ask = askN 1 nm j i := ⟨_, rfl⟩
              have HAK : Hid (ask = if 20 < i + 1 ∨ (ow = 0 ∧ 0 < j ∧ 20 < i + 2) then 4 else ow) := by show _ = _; rw [hask, HOW.out]; rfl
              have HRA : Hid (num (right (nots i (root 1 nm j))) = ask) := HNR.out.trans hask.symm
              have HPR : Hid (right pairN = some 7) := right_pair
              have HPX : Hid (Below w.heap.size w (((wr.alloc (.cells #[.int .i64 2, .string ⟨#[]⟩, .slice none 0 0] 54)).alloc (.cells #[.pointer (some ⟨wr.heap.size, 0, none⟩), .pointer none] 40)).alloc (.cells #[.int .i64 4, .string ⟨#[]⟩, .slice (some ⟨wr.heap.size + 1, 0, none⟩) 2 2] 54))) := then_ HBX.out HPM.out.2
              have HFY := hide (HFX.out.below HPM.out.2)
              clear hask HNR
              have hlo : ow ≤ 9 := by
                have := HLO.out
                exact this
              generalize nots i (root 1 nm j) = xx at *
              have hfive : (20 < i + 1) ∨ (¬ 20 < i + 1 ∧ ow = 0 ∧ 0 < j ∧ 20 < i + 2) ∨ (¬ 20 < i + 1 ∧ ow = 0 ∧ 0 < j ∧ ¬ 20 < i + 2) ∨ (¬ 20 < i + 1 ∧ ow = 0 ∧ ¬ 0 < j) ∨ (¬ 20 < i + 1 ∧ ow ≠ 0) := by omega
              rcases hfive with hA | ⟨hA, hB, hC, hE⟩ | ⟨hA, hB, hC, hE⟩ | ⟨hA, hB, hC⟩ | ⟨hA, hB⟩
              · have hAi : (20 : Int) < (i : Int) + 1 := by omega
                have HK4 : Hid (Value.int IntKind.i64 4 = .int .i64 (ask : Int)) := by show _ = _; rw [HAK.out, if_pos (.inl hA)]; rfl
                go_upto_region 22 with fail
                go_cut [14, 16] from 80 (fun e g wx => e = .int .i64 (ask : Int) ∧ ∃ b, g = .pointer (some ⟨b, 0, none⟩) ∧ Hid (IsF (fun _ => True) wx pairN (.pointer (some ⟨b, 0, none⟩))) ∧ Hid (IsF (fun _ => True) wx xx (.pointer p)) ∧ Hid (Below w.heap.size w wx))
                case first =>
                  go_wp2_with fail
                  go_meet
                  exact ⟨HK4.out, _, rfl, HPM.out.1, HFY.out, HPX.out⟩
                case rest =>
                  obtain ⟨rfl, b, rfl, HPG, HFG, HBG⟩ := hcut
                  clear HK4 HPM HFY HPX HFX HAK
                  have HR1 := hide (Right_any xx _ wc HFG.out (HPT.out wc HBG.out))
                  have HBR : Hid (∀ W, Below w.heap.size w W → Calls Tryd.prog 8 #[errV (right xx), .int .i64 (ask : Int)] W fun x w' => x = .returned (.bool true) ∧ Below W.heap.size W w') := fun W hW => (bare_any (right xx) ask W (HDR.out W hW)).mono fun e w' h => ⟨h.1.trans (by rw [HRA.out]; simp), h.2⟩
                  have hx : (∃ t v, errV (right xx) = .iface t v) ∨ errV (right xx) = .nilIface := by
                    cases right xx with
                    | none => exact .inr rfl
                    | some k => exact .inl ⟨_, _, rfl⟩
                  generalize errV (right xx) = ev at *
                  have HRP : Hid (∀ W, Below wc.heap.size wc W → Calls Tryd.prog 15 #[.pointer (some ⟨b, 0, none⟩)] W fun e w' => e = .returned (.iface 30 (.int .i64 7)) ∧ Below W.heap.size W w') := fun W hW => (Right_any pairN _ W (HPG.out.below hW) (HPT.out W (then_ HBG.out hW))).mono fun e w' h => ⟨h.1.trans (by rw [HPR.out]; rfl), h.2⟩
                  have HRN : Hid (∀ W, Below w.heap.size w W → Calls Tryd.prog 15 #[.pointer none] W fun e w' => e = .returned (.iface 30 (.int .i64 7)) ∧ Below W.heap.size W w') := fun W hW => (Right_any nilF _ W (isF_nil.2 rfl) (HPT.out W hW)).mono fun e w' h => ⟨h.1.trans (by rw [right_nil]; rfl), h.2⟩
                  have HB7 : Hid (∀ W, Below w.heap.size w W → Calls Tryd.prog 8 #[.iface 30 (.int .i64 7), .int .i64 7] W fun x w' => x = .returned (.bool true) ∧ Below W.heap.size W w') := fun W hW => (bare_any (some 7) 7 W (HDR.out W hW)).mono fun e w' h => ⟨h.1.trans (by simp [num]), h.2⟩
                  clear HPG HFG HPR
                  rcases hx with ⟨tv, vv, rfl⟩ | rfl
                  all_goals
                    go_wp2_with fail
                    refine HR1.out.mono ?_
                    rintro e w5 ⟨rfl, hb5⟩
                    have HW5 := hide hb5
                    have HB5 := hide (then_ HBG.out hb5)
                    have HC5 := hide (HBR.out w5 HB5.out)
                    clear hb5 HR1 HBR
                    go_wp2_with fail
                    refine HC5.out.mono ?_
                    rintro e w6 ⟨rfl, hb6⟩
                    have HW6 := hide (then_ HW5.out hb6)
                    have HB6 := hide (then_ HB5.out hb6)
                    have HC6 := hide (HRP.out w6 HW6.out)
                    clear hb6 HC5 HRP
                    go_wp2_with fail
                    refine HC6.out.mono ?_
                    rintro e w7 ⟨rfl, hb7⟩
                    have HBB7 := hide (then_ HB6.out hb7)
                    have HC7 := hide (HB7.out w7 HBB7.out)
                    clear hb7 HC6
                    go_wp2_with fail
                    refine HC7.out.mono ?_
                    rintro e w8 ⟨rfl, hb8⟩
                    have HBB8 := hide (then_ HBB7.out hb8)
                    have HC8 := hide (HRN.out w8 HBB8.out)
                    clear hb8 HC7 HRN
                    go_wp2_with fail
                    refine HC8.out.mono ?_
                    rintro e w9 ⟨rfl, hb9⟩
                    have HBB9 := hide (then_ HBB8.out hb9)
                    have HC9 := hide (HB7.out w9 HBB9.out)
                    clear hb9 HC8 HB7
                    go_wp2_with fail
                    refine HC9.out.mono ?_
                    rintro e w10 ⟨rfl, hb10⟩
                    have HBB10 := hide (then_ HBB9.out hb10)
                    clear hb10 HC9
                    go_wp2_with fail
                    go_ret
                    exact ⟨rfl, HBB10.out⟩
              · have hAi : ¬ (20 : Int) < (i : Int) + 1 := by omega
                have hBi : ((ow : Int) == 0) = true := by simp [hB]
                have hCi : (0 : Int) < (j : Int) := by omega
                have hEi : (20 : Int) < (i : Int) + 2 := by omega
                have HK4 : Hid (Value.int IntKind.i64 4 = .int .i64 (ask : Int)) := by show _ = _; rw [HAK.out, if_pos (.inr ⟨hB, hC, hE⟩)]; rfl
                go_upto_region 22 with fail
                go_cut [14, 16] from 80 (fun e g wx => e = .int .i64 (ask : Int) ∧ ∃ b, g = .pointer (some ⟨b, 0, none⟩) ∧ Hid (IsF (fun _ => True) wx pairN (.pointer (some ⟨b, 0, none⟩))) ∧ Hid (IsF (fun _ => True) wx xx (.pointer p)) ∧ Hid (Below w.heap.size w wx))
                case first =>
                  go_wp2_with fail
                  go_meet
                  exact ⟨HK4.out, _, rfl, HPM.out.1, HFY.out, HPX.out⟩
                case rest =>
                  obtain ⟨rfl, b, rfl, HPG, HFG, HBG⟩ := hcut
                  clear HK4 HPM HFY HPX HFX HAK
                  have HR1 := hide (Right_any xx _ wc HFG.out (HPT.out wc HBG.out))
                  have HBR : Hid (∀ W, Below w.heap.size w W → Calls Tryd.prog 8 #[errV (right xx), .int .i64 (ask : Int)] W fun x w' => x = .returned (.bool true) ∧ Below W.heap.size W w') := fun W hW => (bare_any (right xx) ask W (HDR.out W hW)).mono fun e w' h => ⟨h.1.trans (by rw [HRA.out]; simp), h.2⟩
                  have hx : (∃ t v, errV (right xx) = .iface t v) ∨ errV (right xx) = .nilIface := by
                    cases right xx with
                    | none => exact .inr rfl
                    | some k => exact .inl ⟨_, _, rfl⟩
                  generalize errV (right xx) = ev at *
                  have HRP : Hid (∀ W, Below wc.heap.size wc W → Calls Tryd.prog 15 #[.pointer (some ⟨b, 0, none⟩)] W fun e w' => e = .returned (.iface 30 (.int .i64 7)) ∧ Below W.heap.size W w') := fun W hW => (Right_any pairN _ W (HPG.out.below hW) (HPT.out W (then_ HBG.out hW))).mono fun e w' h => ⟨h.1.trans (by rw [HPR.out]; rfl), h.2⟩
                  have HRN : Hid (∀ W, Below w.heap.size w W → Calls Tryd.prog 15 #[.pointer none] W fun e w' => e = .returned (.iface 30 (.int .i64 7)) ∧ Below W.heap.size W w') := fun W hW => (Right_any nilF _ W (isF_nil.2 rfl) (HPT.out W hW)).mono fun e w' h => ⟨h.1.trans (by rw [right_nil]; rfl), h.2⟩
                  have HB7 : Hid (∀ W, Below w.heap.size w W → Calls Tryd.prog 8 #[.iface 30 (.int .i64 7), .int .i64 7] W fun x w' => x = .returned (.bool true) ∧ Below W.heap.size W w') := fun W hW => (bare_any (some 7) 7 W (HDR.out W hW)).mono fun e w' h => ⟨h.1.trans (by simp [num]), h.2⟩
                  clear HPG HFG HPR
                  rcases hx with ⟨tv, vv, rfl⟩ | rfl
                  all_goals
                    go_wp2_with fail
                    refine HR1.out.mono ?_
                    rintro e w5 ⟨rfl, hb5⟩
                    have HW5 := hide hb5
                    have HB5 := hide (then_ HBG.out hb5)
                    have HC5 := hide (HBR.out w5 HB5.out)
                    clear hb5 HR1 HBR
                    go_wp2_with fail
                    refine HC5.out.mono ?_
                    rintro e w6 ⟨rfl, hb6⟩
                    have HW6 := hide (then_ HW5.out hb6)
                    have HB6 := hide (then_ HB5.out hb6)
                    have HC6 := hide (HRP.out w6 HW6.out)
                    clear hb6 HC5 HRP
                    go_wp2_with fail
                    refine HC6.out.mono ?_
                    rintro e w7 ⟨rfl, hb7⟩
                    have HBB7 := hide (then_ HB6.out hb7)
                    have HC7 := hide (HB7.out w7 HBB7.out)
                    clear hb7 HC6
                    go_wp2_with fail
                    refine HC7.out.mono ?_
                    rintro e w8 ⟨rfl, hb8⟩
                    have HBB8 := hide (then_ HBB7.out hb8)
                    have HC8 := hide (HRN.out w8 HBB8.out)
                    clear hb8 HC7 HRN
                    go_wp2_with fail
                    refine HC8.out.mono ?_
                    rintro e w9 ⟨rfl, hb9⟩
                    have HBB9 := hide (then_ HBB8.out hb9)
                    have HC9 := hide (HB7.out w9 HBB9.out)
                    clear hb9 HC8 HB7
                    go_wp2_with fail
                    refine HC9.out.mono ?_
                    rintro e w10 ⟨rfl, hb10⟩
                    have HBB10 := hide (then_ HBB9.out hb10)
                    clear hb10 HC9
                    go_wp2_with fail
                    go_ret
                    exact ⟨rfl, HBB10.out⟩
              · have hAi : ¬ (20 : Int) < (i : Int) + 1 := by omega
                have hBi : ((ow : Int) == 0) = true := by simp [hB]
                have hCi : (0 : Int) < (j : Int) := by omega
                have hEi : ¬ (20 : Int) < (i : Int) + 2 := by omega
                have HK4 : Hid (Value.int IntKind.i64 0 = .int .i64 (ask : Int)) := by show _ = _; rw [HAK.out, if_neg (by omega), hB]; rfl
                go_upto_region 22 with fail
                go_cut [14, 16] from 80 (fun e g wx => e = .int .i64 (ask : Int) ∧ ∃ b, g = .pointer (some ⟨b, 0, none⟩) ∧ Hid (IsF (fun _ => True) wx pairN (.pointer (some ⟨b, 0, none⟩))) ∧ Hid (IsF (fun _ => True) wx xx (.pointer p)) ∧ Hid (Below w.heap.size w wx))
                case first =>
                  go_wp2_with fail
                  go_meet
                  exact ⟨HK4.out, _, rfl, HPM.out.1, HFY.out, HPX.out⟩
                case rest =>
                  obtain ⟨rfl, b, rfl, HPG, HFG, HBG⟩ := hcut
                  clear HK4 HPM HFY HPX HFX HAK
                  have HR1 := hide (Right_any xx _ wc HFG.out (HPT.out wc HBG.out))
                  have HBR : Hid (∀ W, Below w.heap.size w W → Calls Tryd.prog 8 #[errV (right xx), .int .i64 (ask : Int)] W fun x w' => x = .returned (.bool true) ∧ Below W.heap.size W w') := fun W hW => (bare_any (right xx) ask W (HDR.out W hW)).mono fun e w' h => ⟨h.1.trans (by rw [HRA.out]; simp), h.2⟩
                  have hx : (∃ t v, errV (right xx) = .iface t v) ∨ errV (right xx) = .nilIface := by
                    cases right xx with
                    | none => exact .inr rfl
                    | some k => exact .inl ⟨_, _, rfl⟩
                  generalize errV (right xx) = ev at *
                  have HRP : Hid (∀ W, Below wc.heap.size wc W → Calls Tryd.prog 15 #[.pointer (some ⟨b, 0, none⟩)] W fun e w' => e = .returned (.iface 30 (.int .i64 7)) ∧ Below W.heap.size W w') := fun W hW => (Right_any pairN _ W (HPG.out.below hW) (HPT.out W (then_ HBG.out hW))).mono fun e w' h => ⟨h.1.trans (by rw [HPR.out]; rfl), h.2⟩
                  have HRN : Hid (∀ W, Below w.heap.size w W → Calls Tryd.prog 15 #[.pointer none] W fun e w' => e = .returned (.iface 30 (.int .i64 7)) ∧ Below W.heap.size W w') := fun W hW => (Right_any nilF _ W (isF_nil.2 rfl) (HPT.out W hW)).mono fun e w' h => ⟨h.1.trans (by rw [right_nil]; rfl), h.2⟩
                  have HB7 : Hid (∀ W, Below w.heap.size w W → Calls Tryd.prog 8 #[.iface 30 (.int .i64 7), .int .i64 7] W fun x w' => x = .returned (.bool true) ∧ Below W.heap.size W w') := fun W hW => (bare_any (some 7) 7 W (HDR.out W hW)).mono fun e w' h => ⟨h.1.trans (by simp [num]), h.2⟩
                  clear HPG HFG HPR
                  rcases hx with ⟨tv, vv, rfl⟩ | rfl
                  all_goals
                    go_wp2_with fail
                    refine HR1.out.mono ?_
                    rintro e w5 ⟨rfl, hb5⟩
                    have HW5 := hide hb5
                    have HB5 := hide (then_ HBG.out hb5)
                    have HC5 := hide (HBR.out w5 HB5.out)
                    clear hb5 HR1 HBR
                    go_wp2_with fail
                    refine HC5.out.mono ?_
                    rintro e w6 ⟨rfl, hb6⟩
                    have HW6 := hide (then_ HW5.out hb6)
                    have HB6 := hide (then_ HB5.out hb6)
                    have HC6 := hide (HRP.out w6 HW6.out)
                    clear hb6 HC5 HRP
                    go_wp2_with fail
                    refine HC6.out.mono ?_
                    rintro e w7 ⟨rfl, hb7⟩
                    have HBB7 := hide (then_ HB6.out hb7)
                    have HC7 := hide (HB7.out w7 HBB7.out)
                    clear hb7 HC6
                    go_wp2_with fail
                    refine HC7.out.mono ?_
                    rintro e w8 ⟨rfl, hb8⟩
                    have HBB8 := hide (then_ HBB7.out hb8)
                    have HC8 := hide (HRN.out w8 HBB8.out)
                    clear hb8 HC7 HRN
                    go_wp2_with fail
                    refine HC8.out.mono ?_
                    rintro e w9 ⟨rfl, hb9⟩
                    have HBB9 := hide (then_ HBB8.out hb9)
                    have HC9 := hide (HB7.out w9 HBB9.out)
                    clear hb9 HC8 HB7
                    go_wp2_with fail
                    refine HC9.out.mono ?_
                    rintro e w10 ⟨rfl, hb10⟩
                    have HBB10 := hide (then_ HBB9.out hb10)
                    clear hb10 HC9
                    go_wp2_with fail
                    go_ret
                    exact ⟨rfl, HBB10.out⟩
              · have hAi : ¬ (20 : Int) < (i : Int) + 1 := by omega
                have hBi : ((ow : Int) == 0) = true := by simp [hB]
                have hCi : ¬ (0 : Int) < (j : Int) := by omega
                have HK4 : Hid (Value.int IntKind.i64 0 = .int .i64 (ask : Int)) := by show _ = _; rw [HAK.out, if_neg (by omega), hB]; rfl
                go_upto_region 22 with fail
                go_cut [14, 16] from 80 (fun e g wx => e = .int .i64 (ask : Int) ∧ ∃ b, g = .pointer (some ⟨b, 0, none⟩) ∧ Hid (IsF (fun _ => True) wx pairN (.pointer (some ⟨b, 0, none⟩))) ∧ Hid (IsF (fun _ => True) wx xx (.pointer p)) ∧ Hid (Below w.heap.size w wx))
                case first =>
                  go_wp2_with fail
                  go_meet
                  exact ⟨HK4.out, _, rfl, HPM.out.1, HFY.out, HPX.out⟩
                case rest =>
                  obtain ⟨rfl, b, rfl, HPG, HFG, HBG⟩ := hcut
                  clear HK4 HPM HFY HPX HFX HAK
                  have HR1 := hide (Right_any xx _ wc HFG.out (HPT.out wc HBG.out))
                  have HBR : Hid (∀ W, Below w.heap.size w W → Calls Tryd.prog 8 #[errV (right xx), .int .i64 (ask : Int)] W fun x w' => x = .returned (.bool true) ∧ Below W.heap.size W w') := fun W hW => (bare_any (right xx) ask W (HDR.out W hW)).mono fun e w' h => ⟨h.1.trans (by rw [HRA.out]; simp), h.2⟩
                  have hx : (∃ t v, errV (right xx) = .iface t v) ∨ errV (right xx) = .nilIface := by
                    cases right xx with
                    | none => exact .inr rfl
                    | some k => exact .inl ⟨_, _, rfl⟩
                  generalize errV (right xx) = ev at *
                  have HRP : Hid (∀ W, Below wc.heap.size wc W → Calls Tryd.prog 15 #[.pointer (some ⟨b, 0, none⟩)] W fun e w' => e = .returned (.iface 30 (.int .i64 7)) ∧ Below W.heap.size W w') := fun W hW => (Right_any pairN _ W (HPG.out.below hW) (HPT.out W (then_ HBG.out hW))).mono fun e w' h => ⟨h.1.trans (by rw [HPR.out]; rfl), h.2⟩
                  have HRN : Hid (∀ W, Below w.heap.size w W → Calls Tryd.prog 15 #[.pointer none] W fun e w' => e = .returned (.iface 30 (.int .i64 7)) ∧ Below W.heap.size W w') := fun W hW => (Right_any nilF _ W (isF_nil.2 rfl) (HPT.out W hW)).mono fun e w' h => ⟨h.1.trans (by rw [right_nil]; rfl), h.2⟩
                  have HB7 : Hid (∀ W, Below w.heap.size w W → Calls Tryd.prog 8 #[.iface 30 (.int .i64 7), .int .i64 7] W fun x w' => x = .returned (.bool true) ∧ Below W.heap.size W w') := fun W hW => (bare_any (some 7) 7 W (HDR.out W hW)).mono fun e w' h => ⟨h.1.trans (by simp [num]), h.2⟩
                  clear HPG HFG HPR
                  rcases hx with ⟨tv, vv, rfl⟩ | rfl
                  all_goals
                    go_wp2_with fail
                    refine HR1.out.mono ?_
                    rintro e w5 ⟨rfl, hb5⟩
                    have HW5 := hide hb5
                    have HB5 := hide (then_ HBG.out hb5)
                    have HC5 := hide (HBR.out w5 HB5.out)
                    clear hb5 HR1 HBR
                    go_wp2_with fail
                    refine HC5.out.mono ?_
                    rintro e w6 ⟨rfl, hb6⟩
                    have HW6 := hide (then_ HW5.out hb6)
                    have HB6 := hide (then_ HB5.out hb6)
                    have HC6 := hide (HRP.out w6 HW6.out)
                    clear hb6 HC5 HRP
                    go_wp2_with fail
                    refine HC6.out.mono ?_
                    rintro e w7 ⟨rfl, hb7⟩
                    have HBB7 := hide (then_ HB6.out hb7)
                    have HC7 := hide (HB7.out w7 HBB7.out)
                    clear hb7 HC6
                    go_wp2_with fail
                    refine HC7.out.mono ?_
                    rintro e w8 ⟨rfl, hb8⟩
                    have HBB8 := hide (then_ HBB7.out hb8)
                    have HC8 := hide (HRN.out w8 HBB8.out)
                    clear hb8 HC7 HRN
                    go_wp2_with fail
                    refine HC8.out.mono ?_
                    rintro e w9 ⟨rfl, hb9⟩
                    have HBB9 := hide (then_ HBB8.out hb9)
                    have HC9 := hide (HB7.out w9 HBB9.out)
                    clear hb9 HC8 HB7
                    go_wp2_with fail
                    refine HC9.out.mono ?_
                    rintro e w10 ⟨rfl, hb10⟩
                    have HBB10 := hide (then_ HBB9.out hb10)
                    clear hb10 HC9
                    go_wp2_with fail
                    go_ret
                    exact ⟨rfl, HBB10.out⟩
              · have hAi : ¬ (20 : Int) < (i : Int) + 1 := by omega
                have hBi : ((ow : Int) == 0) = false := by simp; omega
                have HK4 : Hid (Value.int IntKind.i64 (ow : Int) = .int .i64 (ask : Int)) := by show _ = _; rw [HAK.out, if_neg (by omega)]
                go_upto_region 22 with fail
                go_cut [14, 16] from 80 (fun e g wx => e = .int .i64 (ask : Int) ∧ ∃ b, g = .pointer (some ⟨b, 0, none⟩) ∧ Hid (IsF (fun _ => True) wx pairN (.pointer (some ⟨b, 0, none⟩))) ∧ Hid (IsF (fun _ => True) wx xx (.pointer p)) ∧ Hid (Below w.heap.size w wx))
                case first =>
                  go_wp2_with fail
                  go_meet
                  exact ⟨HK4.out, _, rfl, HPM.out.1, HFY.out, HPX.out⟩
                case rest =>
                  obtain ⟨rfl, b, rfl, HPG, HFG, HBG⟩ := hcut
                  clear HK4 HPM HFY HPX HFX HAK
                  have HR1 := hide (Right_any xx _ wc HFG.out (HPT.out wc HBG.out))
                  have HBR : Hid (∀ W, Below w.heap.size w W → Calls Tryd.prog 8 #[errV (right xx), .int .i64 (ask : Int)] W fun x w' => x = .returned (.bool true) ∧ Below W.heap.size W w') := fun W hW => (bare_any (right xx) ask W (HDR.out W hW)).mono fun e w' h => ⟨h.1.trans (by rw [HRA.out]; simp), h.2⟩
                  have hx : (∃ t v, errV (right xx) = .iface t v) ∨ errV (right xx) = .nilIface := by
                    cases right xx with
                    | none => exact .inr rfl
                    | some k => exact .inl ⟨_, _, rfl⟩
                  generalize errV (right xx) = ev at *
                  have HRP : Hid (∀ W, Below wc.heap.size wc W → Calls Tryd.prog 15 #[.pointer (some ⟨b, 0, none⟩)] W fun e w' => e = .returned (.iface 30 (.int .i64 7)) ∧ Below W.heap.size W w') := fun W hW => (Right_any pairN _ W (HPG.out.below hW) (HPT.out W (then_ HBG.out hW))).mono fun e w' h => ⟨h.1.trans (by rw [HPR.out]; rfl), h.2⟩
                  have HRN : Hid (∀ W, Below w.heap.size w W → Calls Tryd.prog 15 #[.pointer none] W fun e w' => e = .returned (.iface 30 (.int .i64 7)) ∧ Below W.heap.size W w') := fun W hW => (Right_any nilF _ W (isF_nil.2 rfl) (HPT.out W hW)).mono fun e w' h => ⟨h.1.trans (by rw [right_nil]; rfl), h.2⟩
                  have HB7 : Hid (∀ W, Below w.heap.size w W → Calls Tryd.prog 8 #[.iface 30 (.int .i64 7), .int .i64 7] W fun x w' => x = .returned (.bool true) ∧ Below W.heap.size W w') := fun W hW => (bare_any (some 7) 7 W (HDR.out W hW)).mono fun e w' h => ⟨h.1.trans (by simp [num]), h.2⟩
                  clear HPG HFG HPR
                  rcases hx with ⟨tv, vv, rfl⟩ | rfl
                  all_goals
                    go_wp2_with fail
                    refine HR1.out.mono ?_
                    rintro e w5 ⟨rfl, hb5⟩
                    have HW5 := hide hb5
                    have HB5 := hide (then_ HBG.out hb5)
                    have HC5 := hide (HBR.out w5 HB5.out)
                    clear hb5 HR1 HBR
                    go_wp2_with fail
                    refine HC5.out.mono ?_
                    rintro e w6 ⟨rfl, hb6⟩
                    have HW6 := hide (then_ HW5.out hb6)
                    have HB6 := hide (then_ HB5.out hb6)
                    have HC6 := hide (HRP.out w6 HW6.out)
                    clear hb6 HC5 HRP
                    go_wp2_with fail
                    refine HC6.out.mono ?_
                    rintro e w7 ⟨rfl, hb7⟩
                    have HBB7 := hide (then_ HB6.out hb7)
                    have HC7 := hide (HB7.out w7 HBB7.out)
                    clear hb7 HC6
                    go_wp2_with fail
                    refine HC7.out.mono ?_
                    rintro e w8 ⟨rfl, hb8⟩
                    have HBB8 := hide (then_ HBB7.out hb8)
                    have HC8 := hide (HRN.out w8 HBB8.out)
                    clear hb8 HC7 HRN
                    go_wp2_with fail
                    refine HC8.out.mono ?_
                    rintro e w9 ⟨rfl, hb9⟩
                    have HBB9 := hide (then_ HBB8.out hb9)
                    have HC9 := hide (HB7.out w9 HBB9.out)
                    clear hb9 HC8 HB7
                    go_wp2_with fail
                    refine HC9.out.mono ?_
                    rintro e w10 ⟨rfl, hb10⟩
                    have HBB10 := hide (then_ HBB9.out hb10)
                    clear hb10 HC9
                    go_wp2_with fail
                    go_ret
                    exact ⟨rfl, HBB10.out⟩
end Ls
end Go.Proofs.YtafohdcfcaiddaaDoor
