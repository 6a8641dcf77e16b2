/-
  The walk of the document's Text of formulas: it is textF.
-/
import Derived.Test.YtmdblokmplbpmaaDoorLyFork
import Derived.Test.YtmdblokmplbpmaaDoorLyRows
import Derived.Test.YtmdblokmplbpmaaDoorLsText
namespace Go.Proofs.YtmdblokmplbpmaaDoor
namespace Ls
open Go.RowKit
theorem Tryd.infoStr : (Tryd.prog.info? 9).map (fun i => (i.zero, i.size, i.bytes)) = some (some (.string ⟨#[]⟩), 1, 16) := by kernel_rfl
def txs (l : List Fm) (j : Nat) : List Value := (l.take j).map fun x => .string ⟨(textF x).toArray⟩
/-- the document's text, at this formula -/
def RTextOK (x : Fm) : Prop := wf x = true → nmd x = true → size x ≤ 300 → ∀ (w : World) (v : Value), IsF (fun _ => True) w x v → Calls Tryd.prog 17 #[v] w fun e w' => e = .returned (.string ⟨(textF x).toArray⟩) ∧ Below w.heap.size w w'
set_option maxHeartbeats 8000000 in
set_option maxRecDepth 100000 in
theorem rtext_any (x : Fm) : RTextOK x := by
  induction x using Fm.ind with
  | h z k nm l ih =>
    intro hwf hn hsz w v hF
    obtain ⟨i0, hi0, hz0, hz1, hz2⟩ := info_parts Tryd.infoStr
    have hts := text_short _ hwf hn
    obtain ⟨⟨rfl, h1, h2, h3⟩, h4⟩ := wf_parts hwf
    rw [nmd_eq, Bool.and_eq_true, List.all_eq_true] at hn
    have hlen : ∀ y, y ∈ l → (textF y).length ≤ 2400 ∧ size y ≤ 300 := fun y hy => by
      have h5 : size y ≤ size ⟨false, k, nm, l⟩ := by
        rw [size_eq]
        have : ∀ m : List Fm, y ∈ m → size y ≤ (m.map size).sum := by
          intro m
          induction m with
          | nil => intro h; simp at h
          | cons a r ihm =>
            intro h
            simp only [List.map_cons, List.sum_cons]
            rcases List.mem_cons.1 h with rfl | h
            · omega
            · have := ihm h; omega
        have := this l hy
        omega
      have := text_short y (h4 y hy) (hn.2 y hy)
      exact ⟨by omega, by omega⟩
    obtain ⟨k64, hnm, -, b, sa, sc, -, rfl, c0, c1, c2, hrow⟩ := isF_node.1 hF
    have HROW := hide hrow
    have HIH := hide (fun y hy W u hU => ih y hy (h4 y hy) (hn.2 y hy) (hlen y hy).2 W u hU)
    have HLN := hide (fun y hy => (hlen y hy).1)
    obtain ⟨m, hm⟩ : ∃ m, m = l.length := ⟨_, rfl⟩
    have HM := hide hm
    have hm2 : m ≤ 2 := by rw [hm, h3]; exact partsOf_le k
    rw [← hm] at c2
    have HLP : Hid (l.length = partsOf k) := h3
    have HTE := hide (textF_eq false k nm l)
    have HTS : Hid ((textF ⟨false, k, nm, l⟩).length ≤ 2400) := by show _ ≤ _; omega
    have HC0 := hide c0
    have HC1 := hide c1
    have HKK : Hid (1 ≤ k ∧ k ≤ 10) := ⟨h1, h2⟩
    clear ih hwf hn hsz h3 h4 hlen hF hrow hm k64 hts h1 h2 c0 c1
    go_enter Tryd.func17, Tryd.ntmps17
    go_wp2_with fail
    go_loopw [11, 3] (fun iv sv wr => ∃ (j : Nat) (va : Option Addr) (vc : Nat), j ≤ m ∧ iv = .int .i64 (j : Int) ∧ sv = .slice va j vc ∧ Hid (wr.ownsRow w.heap.size 9 1 (.slice va j vc) j (txs l j)) ∧ Hid (Below w.heap.size w wr)) (fun iv _ _ => m - (intOf iv).toNat)
    case atStart => exact ⟨0, none, 0, Nat.zero_le _, rfl, rfl, ⟨by simp [txs], .inl ⟨rfl, rfl⟩⟩, Below.refl _ _⟩
    case round =>
      obtain ⟨j, va, vc, hj, rfl, rfl, HO, HB⟩ := hrel
      by_cases hlt : j < m
      · have hjl : j < l.length := by rw [← HM.out]; exact hlt
        obtain ⟨g, o, u, -, hsa, -, hc, hxu⟩ := HROW.out j l[j] (List.getElem?_eq_getElem hjl)
        have hc' := kept HB.out hc
        have hji : (j : Int) < (m : Int) := by omega
        have HCALL := hide (HIH.out l[j] (List.getElem_mem hjl) wr u (hxu.below HB.out))
        have HTK : Hid (txs l (j + 1) = txs l j ++ [.string ⟨(textF l[j]).toArray⟩]) := by show _ = _; unfold txs; rw [List.take_succ_eq_append_getElem hjl, List.map_append]; rfl
        subst hsa
        obtain ⟨pu, rfl⟩ := hxu.ptr
        generalize textF l[j] = ty at *
        clear hc hxu hjl c2
        have HONE : Hid (∀ u ∈ [Value.string ⟨ty.toArray⟩], u.oneCell' = true) := fun u hu => by
          obtain rfl := List.mem_singleton.1 hu
          rfl
        go_wp2_with fail
        refine HCALL.out.mono ?_
        rintro e w1 ⟨rfl, hb1⟩
        have HB1 := hide (then_ HB.out hb1)
        have HO1 := hide (fun o => own_below (own_below HO.out hb1) (newB w1 o))
        have hw1 : w.heap.size ≤ w1.heap.size := HB1.out.size
        clear hb1 HCALL
        go_wp2_with (at_builtin; refine wpList_append_lies _ rfl (.tmp 15) (.tmp 18) 58 rfl w.heap.size 9 i0 _ 1 16 Tryd.underlying58 hi0 hz0 hz1 hz2 rfl (by decide) (.slice va j vc) j (txs l j) rfl (HO1.out _) ⟨w1.heap.size, 0, none⟩ 1 1 [.string ⟨ty.toArray⟩] rfl rfl (World.news_of_block (heap_alloc_new w1 _)) HONE.out (by decide) (by unfold maxLen; omega) (by omega) (by simp; omega) (w1.heap.size + 1) (by simp) ?_; intro g2 k2 w2 hown hgrow hat hltg; have HB2 := hide (below_grown (then_ HB1.out (newB w1 _)) hgrow (ownBlock_new HO.out)); have HO2 := hide hown; clear hown hgrow hat hltg)
        go_roundw
        case rel => exact ⟨j + 1, _, k2, by omega, by go_num, rfl, by rw [HTK.out]; exact HO2.out, HB2.out⟩
        case measure => simp [intOf]; omega
      · have hjm : j = m := by omega
        subst hjm
        have d0 := kept HB.out HC0.out
        have d1 := kept HB.out HC1.out
        have hkk := HKK.out
        by_cases hk1 : k = 1
        · have HT : Hid (textF ⟨false, k, nm, l⟩ = nm) := by show _ = _; rw [HTE.out]; unfold textK; rw [if_pos hk1]
          subst hk1
          go_wp2_with fail
          go_ret
          exact ⟨by rw [HT.out]; rfl, HB.out⟩
        by_cases hk2 : k = 2
        · have HT : Hid (textF ⟨false, k, nm, l⟩ = [116, 114, 117, 101]) := by show _ = _; rw [HTE.out]; unfold textK; rw [if_neg hk1, if_pos hk2]
          subst hk2
          go_wp2_with fail
          go_ret
          exact ⟨by rw [HT.out]; rfl, HB.out⟩
        have HDW := hide (drewB wr)
        by_cases hk3 : k = 3 ∨ k = 6 ∨ k = 9 ∨ k = 10
        · have hp1 : partsOf k = 1 := by rcases hk3 with rfl | rfl | rfl | rfl <;> decide
          obtain ⟨y, rfl⟩ := one_part (HLP.out.trans hp1)
          have hj1 : j = 1 := HM.out
          subst hj1
          obtain ⟨gl, cap, e1, _, _, q⟩ := own_at HO.out (by decide)
          simp only [Value.slice.injEq] at e1
          obtain ⟨rfl, _, rfl⟩ := e1
          have q0 := q 0 (.string ⟨(textF y).toArray⟩) rfl
          have HT : Hid (textF ⟨false, k, nm, [y]⟩ = sign k ++ textF y) := by
            show _ = _; rw [HTE.out]; unfold textK; rw [if_neg hk1, if_neg hk2, if_pos hp1]; rfl
          have hsl := HTS.out
          rw [HT.out, List.length_append] at hsl
          have HKC : Hid (∀ W, Below wr.drew.heap.size wr.drew W → W.cell? ⟨b, 0, none⟩ = some (.int .i64 k) ∧ W.cell? ⟨gl, 0, none⟩ = some (.string ⟨(textF y).toArray⟩)) := fun W hW => ⟨kept (then_ (drewB wr) hW) d0, kept (then_ (drewB wr) hW) q0⟩
          have HFB := hide HB.out
          have HA : Hid (Below wr.drew.heap.size wr.drew (wr.alloc (.map #[] 0)).drew) := newB wr.drew (.map #[] 0)
          have hmk := @run_makeMap Tryd.prog
          have n1 : ¬ 9223372036854775807 < (sign k).length + (textF y).length := by omega
          have HAP := hide (bytes_app (sign k) (textF y))
          have HSG : Hid (∀ g : Int → Option (List UInt8), g 3 = some [33] → g 6 = some [88, 32] → g 9 = some [70, 32] → g 10 = some [71, 32] → g k = some (sign k)) := fun g e3 e6 e9 e10 => by
            rcases hk3 with rfl | rfl | rfl | rfl
            · exact e3
            · exact e6
            · exact e9
            · exact e10
          have HK64 : Hid (I64 k) := by show I64 k; unfold I64; omega
          clear hsl hp1 HO HTE HTS HLP HLN HIH HROW q
          generalize sign k = sg at *
          generalize textF y = ty at *
          rcases hk3 with rfl | rfl | rfl | rfl
          · go_wp2_with fail
            refine wp_region_noPanic ?_
            refine wp_region_held_drew (S := fun W => W.cell? ⟨b, 0, none⟩ = some (.int .i64 3) ∧ W.cell? ⟨gl, 0, none⟩ = some (.string ⟨ty.toArray⟩)) (by kernel_rfl) (HKC.out _ (Below.refl _ _)) (fun hHeld => ?_)
            refine take_at 6 40 (.pointer (some ⟨b, 0, none⟩)) rfl rfl (by kernel_rfl) (by kernel_rfl) (by kernel_rfl) (fun _ _ _ h => h) hHeld (Or.inl ⟨by rfl, ?_⟩) ?_
            · rintro Z ⟨z0, z1⟩
              go_simp
            simp only [List.setIfInBounds_toArray, List.set_cons_zero, List.set_cons_succ]
            refine take_at 7 41 (.pointer (some ⟨b, 0, none⟩)) rfl rfl (by kernel_rfl) (by kernel_rfl) (by kernel_rfl) (fun _ _ _ h => h) hHeld (Or.inl ⟨by rfl, ?_⟩) ?_
            · rintro Z ⟨z0, z1⟩
              go_simp
            simp only [List.setIfInBounds_toArray, List.set_cons_zero, List.set_cons_succ]
            refine take_at 8 42 (.pointer (some ⟨b, 0, none⟩)) rfl rfl (by kernel_rfl) (by kernel_rfl) (by kernel_rfl) (fun _ _ _ h => h) hHeld (Or.inl ⟨by rfl, ?_⟩) ?_
            · rintro Z ⟨z0, z1⟩
              go_simp
            simp only [List.setIfInBounds_toArray, List.set_cons_zero, List.set_cons_succ]
            refine take_at 9 43 (.int .i64 3) rfl rfl (by kernel_rfl) (by kernel_rfl) (by kernel_rfl) (fun _ _ _ h => h) hHeld (Or.inl ⟨by rfl, ?_⟩) ?_
            · rintro Z ⟨z0, z1⟩
              go_simp
            simp only [List.setIfInBounds_toArray, List.set_cons_zero, List.set_cons_succ]
            refine take_at 11 45 (.slice (some ⟨gl, 0, none⟩) 1 vc) rfl rfl (by kernel_rfl) (by kernel_rfl) (by kernel_rfl) (fun _ _ _ h => h) hHeld (Or.inl ⟨by rfl, ?_⟩) ?_
            · rintro Z ⟨z0, z1⟩
              go_simp
            simp only [List.setIfInBounds_toArray, List.set_cons_zero, List.set_cons_succ]
            refine take_at 12 46 (.pointer (some ⟨gl, 0, none⟩)) rfl rfl (by kernel_rfl) (by kernel_rfl) (by kernel_rfl) (fun _ _ _ h => h) hHeld (Or.inl ⟨by rfl, ?_⟩) ?_
            · rintro Z ⟨z0, z1⟩
              go_simp
            simp only [List.setIfInBounds_toArray, List.set_cons_zero, List.set_cons_succ]
            refine take_at 13 47 (.string ⟨ty.toArray⟩) rfl rfl (by kernel_rfl) (by kernel_rfl) (by kernel_rfl) (fun _ _ _ h => h) hHeld (Or.inl ⟨by rfl, ?_⟩) ?_
            · rintro Z ⟨z0, z1⟩
              go_simp
            simp only [List.setIfInBounds_toArray, List.set_cons_zero, List.set_cons_succ]
            refine only_one (i := 0) (by kernel_rfl) ?_
            refine wpOp_k rfl (by rfl) (fun K' hK => ?_)
            go_simp
            refine hK _ _ ⟨HKC.out _ HA.out, ?_⟩
            refine map_fork0 _ wr.heap.size wr.drew 1 2 3 4 3 6 9 10 [33] [88, 32] [70, 32] [71, 32] _ _ (by unfold I64; omega) (by unfold I64; omega) (by unfold I64; omega) (by unfold I64; omega) (by decide) (by decide) (by decide) (by decide) (by decide) (by decide) (by simp) rfl (fun b1 b2 b3 b4 h => by cases b1 <;> cases b2 <;> cases b3 <;> cases b4 <;> first | (cases h; done) | kernel_rfl) (fun b2 b3 b4 => by cases b2 <;> cases b3 <;> cases b4 <;> kernel_rfl) (fun b2 b3 b4 => by cases b2 <;> cases b3 <;> cases b4 <;> kernel_rfl) (fun b2 b3 b4 => by cases b2 <;> cases b3 <;> cases b4 <;> kernel_rfl) (fun b2 b3 b4 => by cases b2 <;> cases b3 <;> cases b4 <;> kernel_rfl) ?_ ?_ ?_ ?_ (fun W hW => HKC.out W hW) ?_ _ HA.out (WS.made wr.drew)
            · intro z z' K r h
              refine wpOp_k rfl (by rfl) (fun K' hK => ?_)
              go_simp
              exact hK _ _ h
            · intro z z' K r h
              refine wpOp_k rfl (by rfl) (fun K' hK => ?_)
              go_simp
              exact hK _ _ h
            · intro z z' K r h
              refine wpOp_k rfl (by rfl) (fun K' hK => ?_)
              go_simp
              exact hK _ _ h
            · intro z z' K r h
              refine wpOp_k rfl (by rfl) (fun K' hK => ?_)
              go_simp
              exact hK _ _ h
            · intro W n D g hbW hws g3 g6 g9 g10
              have hlk := hws.lookN 3 HK64.out sg (HSG.out g g3 g6 g9 g10)
              have HBW := hide hbW
              clear hws g3 g6 g9 g10 hbW
              refine only_one (i := 5) (by kernel_rfl) ?_
              refine wpOp_k rfl (by rfl) (fun K' hK => ?_)
              go_simp
              refine hK _ _ ⟨HKC.out _ HBW.out, ?_⟩
              refine only_one (i := 10) (by kernel_rfl) ?_
              refine wpOp_k rfl (by rfl) (fun K' hK => ?_)
              go_simp
              refine hK _ _ ⟨HKC.out _ HBW.out, ?_⟩
              refine only_one (i := 14) (by kernel_rfl) ?_
              refine wpOp_k rfl (by rfl) (fun K' hK => ?_)
              go_simp
              refine hK _ _ ⟨HKC.out _ HBW.out, ?_⟩
              refine only_one (i := 15) (by kernel_rfl) ?_
              refine wpOp_k rfl (by rfl) (fun K' hK => ?_)
              go_simp
              refine hK _ _ ⟨HKC.out _ HBW.out, ?_⟩
              refine none_left (by kernel_rfl) ?_
              refine NoPanic.normal ?_
              go_wp2_with fail
              go_ret
              exact ⟨by rw [HT.out, ← HAP.out]; rfl, then_ (then_ HFB.out HDW.out) HBW.out⟩
          · go_wp2_with fail
            refine wp_region_noPanic ?_
            refine wp_region_held_drew (S := fun W => W.cell? ⟨b, 0, none⟩ = some (.int .i64 6) ∧ W.cell? ⟨gl, 0, none⟩ = some (.string ⟨ty.toArray⟩)) (by kernel_rfl) (HKC.out _ (Below.refl _ _)) (fun hHeld => ?_)
            refine take_at 6 40 (.pointer (some ⟨b, 0, none⟩)) rfl rfl (by kernel_rfl) (by kernel_rfl) (by kernel_rfl) (fun _ _ _ h => h) hHeld (Or.inl ⟨by rfl, ?_⟩) ?_
            · rintro Z ⟨z0, z1⟩
              go_simp
            simp only [List.setIfInBounds_toArray, List.set_cons_zero, List.set_cons_succ]
            refine take_at 7 41 (.pointer (some ⟨b, 0, none⟩)) rfl rfl (by kernel_rfl) (by kernel_rfl) (by kernel_rfl) (fun _ _ _ h => h) hHeld (Or.inl ⟨by rfl, ?_⟩) ?_
            · rintro Z ⟨z0, z1⟩
              go_simp
            simp only [List.setIfInBounds_toArray, List.set_cons_zero, List.set_cons_succ]
            refine take_at 8 42 (.pointer (some ⟨b, 0, none⟩)) rfl rfl (by kernel_rfl) (by kernel_rfl) (by kernel_rfl) (fun _ _ _ h => h) hHeld (Or.inl ⟨by rfl, ?_⟩) ?_
            · rintro Z ⟨z0, z1⟩
              go_simp
            simp only [List.setIfInBounds_toArray, List.set_cons_zero, List.set_cons_succ]
            refine take_at 9 43 (.int .i64 6) rfl rfl (by kernel_rfl) (by kernel_rfl) (by kernel_rfl) (fun _ _ _ h => h) hHeld (Or.inl ⟨by rfl, ?_⟩) ?_
            · rintro Z ⟨z0, z1⟩
              go_simp
            simp only [List.setIfInBounds_toArray, List.set_cons_zero, List.set_cons_succ]
            refine take_at 11 45 (.slice (some ⟨gl, 0, none⟩) 1 vc) rfl rfl (by kernel_rfl) (by kernel_rfl) (by kernel_rfl) (fun _ _ _ h => h) hHeld (Or.inl ⟨by rfl, ?_⟩) ?_
            · rintro Z ⟨z0, z1⟩
              go_simp
            simp only [List.setIfInBounds_toArray, List.set_cons_zero, List.set_cons_succ]
            refine take_at 12 46 (.pointer (some ⟨gl, 0, none⟩)) rfl rfl (by kernel_rfl) (by kernel_rfl) (by kernel_rfl) (fun _ _ _ h => h) hHeld (Or.inl ⟨by rfl, ?_⟩) ?_
            · rintro Z ⟨z0, z1⟩
              go_simp
            simp only [List.setIfInBounds_toArray, List.set_cons_zero, List.set_cons_succ]
            refine take_at 13 47 (.string ⟨ty.toArray⟩) rfl rfl (by kernel_rfl) (by kernel_rfl) (by kernel_rfl) (fun _ _ _ h => h) hHeld (Or.inl ⟨by rfl, ?_⟩) ?_
            · rintro Z ⟨z0, z1⟩
              go_simp
            simp only [List.setIfInBounds_toArray, List.set_cons_zero, List.set_cons_succ]
            refine only_one (i := 0) (by kernel_rfl) ?_
            refine wpOp_k rfl (by rfl) (fun K' hK => ?_)
            go_simp
            refine hK _ _ ⟨HKC.out _ HA.out, ?_⟩
            refine map_fork0 _ wr.heap.size wr.drew 1 2 3 4 3 6 9 10 [33] [88, 32] [70, 32] [71, 32] _ _ (by unfold I64; omega) (by unfold I64; omega) (by unfold I64; omega) (by unfold I64; omega) (by decide) (by decide) (by decide) (by decide) (by decide) (by decide) (by simp) rfl (fun b1 b2 b3 b4 h => by cases b1 <;> cases b2 <;> cases b3 <;> cases b4 <;> first | (cases h; done) | kernel_rfl) (fun b2 b3 b4 => by cases b2 <;> cases b3 <;> cases b4 <;> kernel_rfl) (fun b2 b3 b4 => by cases b2 <;> cases b3 <;> cases b4 <;> kernel_rfl) (fun b2 b3 b4 => by cases b2 <;> cases b3 <;> cases b4 <;> kernel_rfl) (fun b2 b3 b4 => by cases b2 <;> cases b3 <;> cases b4 <;> kernel_rfl) ?_ ?_ ?_ ?_ (fun W hW => HKC.out W hW) ?_ _ HA.out (WS.made wr.drew)
            · intro z z' K r h
              refine wpOp_k rfl (by rfl) (fun K' hK => ?_)
              go_simp
              exact hK _ _ h
            · intro z z' K r h
              refine wpOp_k rfl (by rfl) (fun K' hK => ?_)
              go_simp
              exact hK _ _ h
            · intro z z' K r h
              refine wpOp_k rfl (by rfl) (fun K' hK => ?_)
              go_simp
              exact hK _ _ h
            · intro z z' K r h
              refine wpOp_k rfl (by rfl) (fun K' hK => ?_)
              go_simp
              exact hK _ _ h
            · intro W n D g hbW hws g3 g6 g9 g10
              have hlk := hws.lookN 6 HK64.out sg (HSG.out g g3 g6 g9 g10)
              have HBW := hide hbW
              clear hws g3 g6 g9 g10 hbW
              refine only_one (i := 5) (by kernel_rfl) ?_
              refine wpOp_k rfl (by rfl) (fun K' hK => ?_)
              go_simp
              refine hK _ _ ⟨HKC.out _ HBW.out, ?_⟩
              refine only_one (i := 10) (by kernel_rfl) ?_
              refine wpOp_k rfl (by rfl) (fun K' hK => ?_)
              go_simp
              refine hK _ _ ⟨HKC.out _ HBW.out, ?_⟩
              refine only_one (i := 14) (by kernel_rfl) ?_
              refine wpOp_k rfl (by rfl) (fun K' hK => ?_)
              go_simp
              refine hK _ _ ⟨HKC.out _ HBW.out, ?_⟩
              refine only_one (i := 15) (by kernel_rfl) ?_
              refine wpOp_k rfl (by rfl) (fun K' hK => ?_)
              go_simp
              refine hK _ _ ⟨HKC.out _ HBW.out, ?_⟩
              refine none_left (by kernel_rfl) ?_
              refine NoPanic.normal ?_
              go_wp2_with fail
              go_ret
              exact ⟨by rw [HT.out, ← HAP.out]; rfl, then_ (then_ HFB.out HDW.out) HBW.out⟩
          · go_wp2_with fail
            refine wp_region_noPanic ?_
            refine wp_region_held_drew (S := fun W => W.cell? ⟨b, 0, none⟩ = some (.int .i64 9) ∧ W.cell? ⟨gl, 0, none⟩ = some (.string ⟨ty.toArray⟩)) (by kernel_rfl) (HKC.out _ (Below.refl _ _)) (fun hHeld => ?_)
            refine take_at 6 40 (.pointer (some ⟨b, 0, none⟩)) rfl rfl (by kernel_rfl) (by kernel_rfl) (by kernel_rfl) (fun _ _ _ h => h) hHeld (Or.inl ⟨by rfl, ?_⟩) ?_
            · rintro Z ⟨z0, z1⟩
              go_simp
            simp only [List.setIfInBounds_toArray, List.set_cons_zero, List.set_cons_succ]
            refine take_at 7 41 (.pointer (some ⟨b, 0, none⟩)) rfl rfl (by kernel_rfl) (by kernel_rfl) (by kernel_rfl) (fun _ _ _ h => h) hHeld (Or.inl ⟨by rfl, ?_⟩) ?_
            · rintro Z ⟨z0, z1⟩
              go_simp
            simp only [List.setIfInBounds_toArray, List.set_cons_zero, List.set_cons_succ]
            refine take_at 8 42 (.pointer (some ⟨b, 0, none⟩)) rfl rfl (by kernel_rfl) (by kernel_rfl) (by kernel_rfl) (fun _ _ _ h => h) hHeld (Or.inl ⟨by rfl, ?_⟩) ?_
            · rintro Z ⟨z0, z1⟩
              go_simp
            simp only [List.setIfInBounds_toArray, List.set_cons_zero, List.set_cons_succ]
            refine take_at 9 43 (.int .i64 9) rfl rfl (by kernel_rfl) (by kernel_rfl) (by kernel_rfl) (fun _ _ _ h => h) hHeld (Or.inl ⟨by rfl, ?_⟩) ?_
            · rintro Z ⟨z0, z1⟩
              go_simp
            simp only [List.setIfInBounds_toArray, List.set_cons_zero, List.set_cons_succ]
            refine take_at 11 45 (.slice (some ⟨gl, 0, none⟩) 1 vc) rfl rfl (by kernel_rfl) (by kernel_rfl) (by kernel_rfl) (fun _ _ _ h => h) hHeld (Or.inl ⟨by rfl, ?_⟩) ?_
            · rintro Z ⟨z0, z1⟩
              go_simp
            simp only [List.setIfInBounds_toArray, List.set_cons_zero, List.set_cons_succ]
            refine take_at 12 46 (.pointer (some ⟨gl, 0, none⟩)) rfl rfl (by kernel_rfl) (by kernel_rfl) (by kernel_rfl) (fun _ _ _ h => h) hHeld (Or.inl ⟨by rfl, ?_⟩) ?_
            · rintro Z ⟨z0, z1⟩
              go_simp
            simp only [List.setIfInBounds_toArray, List.set_cons_zero, List.set_cons_succ]
            refine take_at 13 47 (.string ⟨ty.toArray⟩) rfl rfl (by kernel_rfl) (by kernel_rfl) (by kernel_rfl) (fun _ _ _ h => h) hHeld (Or.inl ⟨by rfl, ?_⟩) ?_
            · rintro Z ⟨z0, z1⟩
              go_simp
            simp only [List.setIfInBounds_toArray, List.set_cons_zero, List.set_cons_succ]
            refine only_one (i := 0) (by kernel_rfl) ?_
            refine wpOp_k rfl (by rfl) (fun K' hK => ?_)
            go_simp
            refine hK _ _ ⟨HKC.out _ HA.out, ?_⟩
            refine map_fork0 _ wr.heap.size wr.drew 1 2 3 4 3 6 9 10 [33] [88, 32] [70, 32] [71, 32] _ _ (by unfold I64; omega) (by unfold I64; omega) (by unfold I64; omega) (by unfold I64; omega) (by decide) (by decide) (by decide) (by decide) (by decide) (by decide) (by simp) rfl (fun b1 b2 b3 b4 h => by cases b1 <;> cases b2 <;> cases b3 <;> cases b4 <;> first | (cases h; done) | kernel_rfl) (fun b2 b3 b4 => by cases b2 <;> cases b3 <;> cases b4 <;> kernel_rfl) (fun b2 b3 b4 => by cases b2 <;> cases b3 <;> cases b4 <;> kernel_rfl) (fun b2 b3 b4 => by cases b2 <;> cases b3 <;> cases b4 <;> kernel_rfl) (fun b2 b3 b4 => by cases b2 <;> cases b3 <;> cases b4 <;> kernel_rfl) ?_ ?_ ?_ ?_ (fun W hW => HKC.out W hW) ?_ _ HA.out (WS.made wr.drew)
            · intro z z' K r h
              refine wpOp_k rfl (by rfl) (fun K' hK => ?_)
              go_simp
              exact hK _ _ h
            · intro z z' K r h
              refine wpOp_k rfl (by rfl) (fun K' hK => ?_)
              go_simp
              exact hK _ _ h
            · intro z z' K r h
              refine wpOp_k rfl (by rfl) (fun K' hK => ?_)
              go_simp
              exact hK _ _ h
            · intro z z' K r h
              refine wpOp_k rfl (by rfl) (fun K' hK => ?_)
              go_simp
              exact hK _ _ h
            · intro W n D g hbW hws g3 g6 g9 g10
              have hlk := hws.lookN 9 HK64.out sg (HSG.out g g3 g6 g9 g10)
              have HBW := hide hbW
              clear hws g3 g6 g9 g10 hbW
              refine only_one (i := 5) (by kernel_rfl) ?_
              refine wpOp_k rfl (by rfl) (fun K' hK => ?_)
              go_simp
              refine hK _ _ ⟨HKC.out _ HBW.out, ?_⟩
              refine only_one (i := 10) (by kernel_rfl) ?_
              refine wpOp_k rfl (by rfl) (fun K' hK => ?_)
              go_simp
              refine hK _ _ ⟨HKC.out _ HBW.out, ?_⟩
              refine only_one (i := 14) (by kernel_rfl) ?_
              refine wpOp_k rfl (by rfl) (fun K' hK => ?_)
              go_simp
              refine hK _ _ ⟨HKC.out _ HBW.out, ?_⟩
              refine only_one (i := 15) (by kernel_rfl) ?_
              refine wpOp_k rfl (by rfl) (fun K' hK => ?_)
              go_simp
              refine hK _ _ ⟨HKC.out _ HBW.out, ?_⟩
              refine none_left (by kernel_rfl) ?_
              refine NoPanic.normal ?_
              go_wp2_with fail
              go_ret
              exact ⟨by rw [HT.out, ← HAP.out]; rfl, then_ (then_ HFB.out HDW.out) HBW.out⟩
          · go_wp2_with fail
            refine wp_region_noPanic ?_
            refine wp_region_held_drew (S := fun W => W.cell? ⟨b, 0, none⟩ = some (.int .i64 10) ∧ W.cell? ⟨gl, 0, none⟩ = some (.string ⟨ty.toArray⟩)) (by kernel_rfl) (HKC.out _ (Below.refl _ _)) (fun hHeld => ?_)
            refine take_at 6 40 (.pointer (some ⟨b, 0, none⟩)) rfl rfl (by kernel_rfl) (by kernel_rfl) (by kernel_rfl) (fun _ _ _ h => h) hHeld (Or.inl ⟨by rfl, ?_⟩) ?_
            · rintro Z ⟨z0, z1⟩
              go_simp
            simp only [List.setIfInBounds_toArray, List.set_cons_zero, List.set_cons_succ]
            refine take_at 7 41 (.pointer (some ⟨b, 0, none⟩)) rfl rfl (by kernel_rfl) (by kernel_rfl) (by kernel_rfl) (fun _ _ _ h => h) hHeld (Or.inl ⟨by rfl, ?_⟩) ?_
            · rintro Z ⟨z0, z1⟩
              go_simp
            simp only [List.setIfInBounds_toArray, List.set_cons_zero, List.set_cons_succ]
            refine take_at 8 42 (.pointer (some ⟨b, 0, none⟩)) rfl rfl (by kernel_rfl) (by kernel_rfl) (by kernel_rfl) (fun _ _ _ h => h) hHeld (Or.inl ⟨by rfl, ?_⟩) ?_
            · rintro Z ⟨z0, z1⟩
              go_simp
            simp only [List.setIfInBounds_toArray, List.set_cons_zero, List.set_cons_succ]
            refine take_at 9 43 (.int .i64 10) rfl rfl (by kernel_rfl) (by kernel_rfl) (by kernel_rfl) (fun _ _ _ h => h) hHeld (Or.inl ⟨by rfl, ?_⟩) ?_
            · rintro Z ⟨z0, z1⟩
              go_simp
            simp only [List.setIfInBounds_toArray, List.set_cons_zero, List.set_cons_succ]
            refine take_at 11 45 (.slice (some ⟨gl, 0, none⟩) 1 vc) rfl rfl (by kernel_rfl) (by kernel_rfl) (by kernel_rfl) (fun _ _ _ h => h) hHeld (Or.inl ⟨by rfl, ?_⟩) ?_
            · rintro Z ⟨z0, z1⟩
              go_simp
            simp only [List.setIfInBounds_toArray, List.set_cons_zero, List.set_cons_succ]
            refine take_at 12 46 (.pointer (some ⟨gl, 0, none⟩)) rfl rfl (by kernel_rfl) (by kernel_rfl) (by kernel_rfl) (fun _ _ _ h => h) hHeld (Or.inl ⟨by rfl, ?_⟩) ?_
            · rintro Z ⟨z0, z1⟩
              go_simp
            simp only [List.setIfInBounds_toArray, List.set_cons_zero, List.set_cons_succ]
            refine take_at 13 47 (.string ⟨ty.toArray⟩) rfl rfl (by kernel_rfl) (by kernel_rfl) (by kernel_rfl) (fun _ _ _ h => h) hHeld (Or.inl ⟨by rfl, ?_⟩) ?_
            · rintro Z ⟨z0, z1⟩
              go_simp
            simp only [List.setIfInBounds_toArray, List.set_cons_zero, List.set_cons_succ]
            refine only_one (i := 0) (by kernel_rfl) ?_
            refine wpOp_k rfl (by rfl) (fun K' hK => ?_)
            go_simp
            refine hK _ _ ⟨HKC.out _ HA.out, ?_⟩
            refine map_fork0 _ wr.heap.size wr.drew 1 2 3 4 3 6 9 10 [33] [88, 32] [70, 32] [71, 32] _ _ (by unfold I64; omega) (by unfold I64; omega) (by unfold I64; omega) (by unfold I64; omega) (by decide) (by decide) (by decide) (by decide) (by decide) (by decide) (by simp) rfl (fun b1 b2 b3 b4 h => by cases b1 <;> cases b2 <;> cases b3 <;> cases b4 <;> first | (cases h; done) | kernel_rfl) (fun b2 b3 b4 => by cases b2 <;> cases b3 <;> cases b4 <;> kernel_rfl) (fun b2 b3 b4 => by cases b2 <;> cases b3 <;> cases b4 <;> kernel_rfl) (fun b2 b3 b4 => by cases b2 <;> cases b3 <;> cases b4 <;> kernel_rfl) (fun b2 b3 b4 => by cases b2 <;> cases b3 <;> cases b4 <;> kernel_rfl) ?_ ?_ ?_ ?_ (fun W hW => HKC.out W hW) ?_ _ HA.out (WS.made wr.drew)
            · intro z z' K r h
              refine wpOp_k rfl (by rfl) (fun K' hK => ?_)
              go_simp
              exact hK _ _ h
            · intro z z' K r h
              refine wpOp_k rfl (by rfl) (fun K' hK => ?_)
              go_simp
              exact hK _ _ h
            · intro z z' K r h
              refine wpOp_k rfl (by rfl) (fun K' hK => ?_)
              go_simp
              exact hK _ _ h
            · intro z z' K r h
              refine wpOp_k rfl (by rfl) (fun K' hK => ?_)
              go_simp
              exact hK _ _ h
            · intro W n D g hbW hws g3 g6 g9 g10
              have hlk := hws.lookN 10 HK64.out sg (HSG.out g g3 g6 g9 g10)
              have HBW := hide hbW
              clear hws g3 g6 g9 g10 hbW
              refine only_one (i := 5) (by kernel_rfl) ?_
              refine wpOp_k rfl (by rfl) (fun K' hK => ?_)
              go_simp
              refine hK _ _ ⟨HKC.out _ HBW.out, ?_⟩
              refine only_one (i := 10) (by kernel_rfl) ?_
              refine wpOp_k rfl (by rfl) (fun K' hK => ?_)
              go_simp
              refine hK _ _ ⟨HKC.out _ HBW.out, ?_⟩
              refine only_one (i := 14) (by kernel_rfl) ?_
              refine wpOp_k rfl (by rfl) (fun K' hK => ?_)
              go_simp
              refine hK _ _ ⟨HKC.out _ HBW.out, ?_⟩
              refine only_one (i := 15) (by kernel_rfl) ?_
              refine wpOp_k rfl (by rfl) (fun K' hK => ?_)
              go_simp
              refine hK _ _ ⟨HKC.out _ HBW.out, ?_⟩
              refine none_left (by kernel_rfl) ?_
              refine NoPanic.normal ?_
              go_wp2_with fail
              go_ret
              exact ⟨by rw [HT.out, ← HAP.out]; rfl, then_ (then_ HFB.out HDW.out) HBW.out⟩
        · have hp2 : partsOf k = 2 := by
            rcases kinds hkk.1 hkk.2 with h | h | h | h | h
            · exact absurd (.inl h) hk3
            · exact absurd (.inr (.inr (.inl h))) hk3
            · exact absurd (.inr (.inr (.inr h))) hk3
            · omega
            · rcases h with rfl | rfl | rfl | rfl | rfl
              · decide
              · decide
              · exact absurd (.inr (.inl rfl)) hk3
              · decide
              · decide
          have hk4 : k = 4 ∨ k = 5 ∨ k = 7 ∨ k = 8 := by omega
          obtain ⟨y, zz, rfl⟩ := two_parts (HLP.out.trans hp2)
          have hj1 : j = 2 := HM.out
          subst hj1
          obtain ⟨gl, cap, e1, _, _, q⟩ := own_at HO.out (by decide)
          simp only [Value.slice.injEq] at e1
          obtain ⟨rfl, _, rfl⟩ := e1
          have q0 := q 0 (.string ⟨(textF y).toArray⟩) rfl
          have q1 := q 1 (.string ⟨(textF zz).toArray⟩) rfl
          have HT : Hid (textF ⟨false, k, nm, [y, zz]⟩ = [40] ++ textF y ++ sign k ++ textF zz ++ [41]) := by
            show _ = _; rw [HTE.out]; unfold textK; rw [if_neg hk1, if_neg hk2, if_neg (by rw [hp2]; decide)]; rfl
          have hsl := HTS.out
          rw [HT.out] at hsl
          simp only [List.length_append, List.length_cons, List.length_nil] at hsl
          have HKC : Hid (∀ W, Below wr.drew.heap.size wr.drew W → W.cell? ⟨b, 0, none⟩ = some (.int .i64 k) ∧ W.cell? ⟨gl, 0, none⟩ = some (.string ⟨(textF y).toArray⟩) ∧ W.cell? ⟨gl, 1, none⟩ = some (.string ⟨(textF zz).toArray⟩)) := fun W hW => ⟨kept (then_ (drewB wr) hW) d0, kept (then_ (drewB wr) hW) q0, kept (then_ (drewB wr) hW) q1⟩
          have HFB := hide HB.out
          have HA : Hid (Below wr.drew.heap.size wr.drew (wr.alloc (.map #[] 0)).drew) := newB wr.drew (.map #[] 0)
          have hmk := @run_makeMap Tryd.prog
          have n1 : ¬ 9223372036854775807 < 1 + (textF y).length := by omega
          have n2 : ¬ 9223372036854775807 < 1 + (textF y).length + (sign k).length := by omega
          have n3 : ¬ 9223372036854775807 < 1 + (textF y).length + (sign k).length + (textF zz).length := by omega
          have n4 : ¬ 9223372036854775807 < 1 + (textF y).length + (sign k).length + (textF zz).length + 1 := by omega
          have HAP : Hid ((⟨#[40]⟩ : ByteArray) ++ ⟨(textF y).toArray⟩ ++ ⟨(sign k).toArray⟩ ++ ⟨(textF zz).toArray⟩ ++ ⟨#[41]⟩ = ⟨([40] ++ textF y ++ sign k ++ textF zz ++ [41]).toArray⟩) := by
            show _ = _
            have a1 : (⟨#[40]⟩ : ByteArray) = ⟨([40] : List UInt8).toArray⟩ := rfl
            have a2 : (⟨#[41]⟩ : ByteArray) = ⟨([41] : List UInt8).toArray⟩ := rfl
            rw [a1, a2, bytes_app, bytes_app, bytes_app, bytes_app]
          have HSG : Hid (∀ g : Int → Option (List UInt8), g 4 = some [32, 38, 32] → g 5 = some [32, 124, 32] → g 7 = some [32, 85, 32] → g 8 = some [32, 82, 32] → g k = some (sign k)) := fun g e3 e6 e9 e10 => by
            rcases hk4 with rfl | rfl | rfl | rfl
            · exact e3
            · exact e6
            · exact e9
            · exact e10
          have HK64 : Hid (I64 k) := by show I64 k; unfold I64; omega
          clear hsl hp2 HO HTE HTS HLP HLN HIH HROW q hk3 hkk hk1 hk2
          generalize sign k = sg at *
          generalize textF y = ty at *
          generalize textF zz = tz at *
          rcases hk4 with rfl | rfl | rfl | rfl
          · go_wp2_with fail
            refine wp_region_noPanic ?_
            refine wp_region_held_drew (S := fun W => W.cell? ⟨b, 0, none⟩ = some (.int .i64 4) ∧ W.cell? ⟨gl, 0, none⟩ = some (.string ⟨ty.toArray⟩) ∧ W.cell? ⟨gl, 1, none⟩ = some (.string ⟨tz.toArray⟩)) (by kernel_rfl) (HKC.out _ (Below.refl _ _)) (fun hHeld => ?_)
            refine take_at 0 49 (.slice (some ⟨gl, 0, none⟩) 2 vc) rfl rfl (by kernel_rfl) (by kernel_rfl) (by kernel_rfl) (fun _ _ _ h => h) hHeld (Or.inl ⟨by rfl, ?_⟩) ?_
            · rintro Z ⟨z0, z1, z2⟩
              go_simp
            simp only [List.setIfInBounds_toArray, List.set_cons_zero, List.set_cons_succ]
            refine take_at 1 50 (.pointer (some ⟨gl, 0, none⟩)) rfl rfl (by kernel_rfl) (by kernel_rfl) (by kernel_rfl) (fun _ _ _ h => h) hHeld (Or.inl ⟨by rfl, ?_⟩) ?_
            · rintro Z ⟨z0, z1, z2⟩
              go_simp
            simp only [List.setIfInBounds_toArray, List.set_cons_zero, List.set_cons_succ]
            refine take_at 2 51 (.string ⟨ty.toArray⟩) rfl rfl (by kernel_rfl) (by kernel_rfl) (by kernel_rfl) (fun _ _ _ h => h) hHeld (Or.inl ⟨by rfl, ?_⟩) ?_
            · rintro Z ⟨z0, z1, z2⟩
              go_simp
            simp only [List.setIfInBounds_toArray, List.set_cons_zero, List.set_cons_succ]
            refine take_at 3 52 (.string (⟨#[40]⟩ ++ ⟨ty.toArray⟩)) rfl rfl (by kernel_rfl) (by kernel_rfl) (by kernel_rfl) (fun _ _ _ h => h) hHeld (Or.inl ⟨by rfl, ?_⟩) ?_
            · rintro Z ⟨z0, z1, z2⟩
              go_simp
            simp only [List.setIfInBounds_toArray, List.set_cons_zero, List.set_cons_succ]
            refine take_at 10 55 (.pointer (some ⟨b, 0, none⟩)) rfl rfl (by kernel_rfl) (by kernel_rfl) (by kernel_rfl) (fun _ _ _ h => h) hHeld (Or.inl ⟨by rfl, ?_⟩) ?_
            · rintro Z ⟨z0, z1, z2⟩
              go_simp
            simp only [List.setIfInBounds_toArray, List.set_cons_zero, List.set_cons_succ]
            refine take_at 11 56 (.pointer (some ⟨b, 0, none⟩)) rfl rfl (by kernel_rfl) (by kernel_rfl) (by kernel_rfl) (fun _ _ _ h => h) hHeld (Or.inl ⟨by rfl, ?_⟩) ?_
            · rintro Z ⟨z0, z1, z2⟩
              go_simp
            simp only [List.setIfInBounds_toArray, List.set_cons_zero, List.set_cons_succ]
            refine take_at 12 57 (.pointer (some ⟨b, 0, none⟩)) rfl rfl (by kernel_rfl) (by kernel_rfl) (by kernel_rfl) (fun _ _ _ h => h) hHeld (Or.inl ⟨by rfl, ?_⟩) ?_
            · rintro Z ⟨z0, z1, z2⟩
              go_simp
            simp only [List.setIfInBounds_toArray, List.set_cons_zero, List.set_cons_succ]
            refine take_at 13 58 (.int .i64 4) rfl rfl (by kernel_rfl) (by kernel_rfl) (by kernel_rfl) (fun _ _ _ h => h) hHeld (Or.inl ⟨by rfl, ?_⟩) ?_
            · rintro Z ⟨z0, z1, z2⟩
              go_simp
            simp only [List.setIfInBounds_toArray, List.set_cons_zero, List.set_cons_succ]
            refine take_at 16 61 (.slice (some ⟨gl, 0, none⟩) 2 vc) rfl rfl (by kernel_rfl) (by kernel_rfl) (by kernel_rfl) (fun _ _ _ h => h) hHeld (Or.inl ⟨by rfl, ?_⟩) ?_
            · rintro Z ⟨z0, z1, z2⟩
              go_simp
            simp only [List.setIfInBounds_toArray, List.set_cons_zero, List.set_cons_succ]
            refine take_at 17 62 (.pointer (some ⟨gl, 1, none⟩)) rfl rfl (by kernel_rfl) (by kernel_rfl) (by kernel_rfl) (fun _ _ _ h => h) hHeld (Or.inl ⟨by rfl, ?_⟩) ?_
            · rintro Z ⟨z0, z1, z2⟩
              go_simp
            simp only [List.setIfInBounds_toArray, List.set_cons_zero, List.set_cons_succ]
            refine take_at 18 63 (.string ⟨tz.toArray⟩) rfl rfl (by kernel_rfl) (by kernel_rfl) (by kernel_rfl) (fun _ _ _ h => h) hHeld (Or.inl ⟨by rfl, ?_⟩) ?_
            · rintro Z ⟨z0, z1, z2⟩
              go_simp
            simp only [List.setIfInBounds_toArray, List.set_cons_zero, List.set_cons_succ]
            refine only_one (i := 4) (by kernel_rfl) ?_
            refine wpOp_k rfl (by rfl) (fun K' hK => ?_)
            go_simp
            refine hK _ _ ⟨HKC.out _ HA.out, ?_⟩
            refine map_fork0 _ wr.heap.size wr.drew 5 6 7 8 4 5 7 8 [32, 38, 32] [32, 124, 32] [32, 85, 32] [32, 82, 32] _ _ (by unfold I64; omega) (by unfold I64; omega) (by unfold I64; omega) (by unfold I64; omega) (by decide) (by decide) (by decide) (by decide) (by decide) (by decide) (by simp) rfl (fun b1 b2 b3 b4 h => by cases b1 <;> cases b2 <;> cases b3 <;> cases b4 <;> first | (cases h; done) | kernel_rfl) (fun b2 b3 b4 => by cases b2 <;> cases b3 <;> cases b4 <;> kernel_rfl) (fun b2 b3 b4 => by cases b2 <;> cases b3 <;> cases b4 <;> kernel_rfl) (fun b2 b3 b4 => by cases b2 <;> cases b3 <;> cases b4 <;> kernel_rfl) (fun b2 b3 b4 => by cases b2 <;> cases b3 <;> cases b4 <;> kernel_rfl) ?_ ?_ ?_ ?_ (fun W hW => HKC.out W hW) ?_ _ HA.out (WS.made wr.drew)
            · intro z z' K r h
              refine wpOp_k rfl (by rfl) (fun K' hK => ?_)
              go_simp
              exact hK _ _ h
            · intro z z' K r h
              refine wpOp_k rfl (by rfl) (fun K' hK => ?_)
              go_simp
              exact hK _ _ h
            · intro z z' K r h
              refine wpOp_k rfl (by rfl) (fun K' hK => ?_)
              go_simp
              exact hK _ _ h
            · intro z z' K r h
              refine wpOp_k rfl (by rfl) (fun K' hK => ?_)
              go_simp
              exact hK _ _ h
            · intro W n D g hbW hws g4 g5 g7 g8
              have hlk := hws.lookN 4 HK64.out sg (HSG.out g g4 g5 g7 g8)
              have HBW := hide hbW
              clear hws g4 g5 g7 g8 hbW
              refine only_one (i := 9) (by kernel_rfl) ?_
              refine wpOp_k rfl (by rfl) (fun K' hK => ?_)
              go_simp
              refine hK _ _ ⟨HKC.out _ HBW.out, ?_⟩
              refine only_one (i := 14) (by kernel_rfl) ?_
              refine wpOp_k rfl (by rfl) (fun K' hK => ?_)
              go_simp
              refine hK _ _ ⟨HKC.out _ HBW.out, ?_⟩
              refine only_one (i := 15) (by kernel_rfl) ?_
              refine wpOp_k rfl (by rfl) (fun K' hK => ?_)
              go_simp
              refine hK _ _ ⟨HKC.out _ HBW.out, ?_⟩
              refine only_one (i := 19) (by kernel_rfl) ?_
              refine wpOp_k rfl (by rfl) (fun K' hK => ?_)
              go_simp
              refine hK _ _ ⟨HKC.out _ HBW.out, ?_⟩
              refine only_one (i := 20) (by kernel_rfl) ?_
              refine wpOp_k rfl (by rfl) (fun K' hK => ?_)
              go_simp
              refine hK _ _ ⟨HKC.out _ HBW.out, ?_⟩
              refine only_one (i := 21) (by kernel_rfl) ?_
              refine wpOp_k rfl (by rfl) (fun K' hK => ?_)
              go_simp
              refine hK _ _ ⟨HKC.out _ HBW.out, ?_⟩
              refine none_left (by kernel_rfl) ?_
              refine NoPanic.normal ?_
              go_wp2_with fail
              go_ret
              exact ⟨by rw [HT.out, ← HAP.out]; rfl, then_ (then_ HFB.out HDW.out) HBW.out⟩
          · go_wp2_with fail
            refine wp_region_noPanic ?_
            refine wp_region_held_drew (S := fun W => W.cell? ⟨b, 0, none⟩ = some (.int .i64 5) ∧ W.cell? ⟨gl, 0, none⟩ = some (.string ⟨ty.toArray⟩) ∧ W.cell? ⟨gl, 1, none⟩ = some (.string ⟨tz.toArray⟩)) (by kernel_rfl) (HKC.out _ (Below.refl _ _)) (fun hHeld => ?_)
            refine take_at 0 49 (.slice (some ⟨gl, 0, none⟩) 2 vc) rfl rfl (by kernel_rfl) (by kernel_rfl) (by kernel_rfl) (fun _ _ _ h => h) hHeld (Or.inl ⟨by rfl, ?_⟩) ?_
            · rintro Z ⟨z0, z1, z2⟩
              go_simp
            simp only [List.setIfInBounds_toArray, List.set_cons_zero, List.set_cons_succ]
            refine take_at 1 50 (.pointer (some ⟨gl, 0, none⟩)) rfl rfl (by kernel_rfl) (by kernel_rfl) (by kernel_rfl) (fun _ _ _ h => h) hHeld (Or.inl ⟨by rfl, ?_⟩) ?_
            · rintro Z ⟨z0, z1, z2⟩
              go_simp
            simp only [List.setIfInBounds_toArray, List.set_cons_zero, List.set_cons_succ]
            refine take_at 2 51 (.string ⟨ty.toArray⟩) rfl rfl (by kernel_rfl) (by kernel_rfl) (by kernel_rfl) (fun _ _ _ h => h) hHeld (Or.inl ⟨by rfl, ?_⟩) ?_
            · rintro Z ⟨z0, z1, z2⟩
              go_simp
            simp only [List.setIfInBounds_toArray, List.set_cons_zero, List.set_cons_succ]
            refine take_at 3 52 (.string (⟨#[40]⟩ ++ ⟨ty.toArray⟩)) rfl rfl (by kernel_rfl) (by kernel_rfl) (by kernel_rfl) (fun _ _ _ h => h) hHeld (Or.inl ⟨by rfl, ?_⟩) ?_
            · rintro Z ⟨z0, z1, z2⟩
              go_simp
            simp only [List.setIfInBounds_toArray, List.set_cons_zero, List.set_cons_succ]
            refine take_at 10 55 (.pointer (some ⟨b, 0, none⟩)) rfl rfl (by kernel_rfl) (by kernel_rfl) (by kernel_rfl) (fun _ _ _ h => h) hHeld (Or.inl ⟨by rfl, ?_⟩) ?_
            · rintro Z ⟨z0, z1, z2⟩
              go_simp
            simp only [List.setIfInBounds_toArray, List.set_cons_zero, List.set_cons_succ]
            refine take_at 11 56 (.pointer (some ⟨b, 0, none⟩)) rfl rfl (by kernel_rfl) (by kernel_rfl) (by kernel_rfl) (fun _ _ _ h => h) hHeld (Or.inl ⟨by rfl, ?_⟩) ?_
            · rintro Z ⟨z0, z1, z2⟩
              go_simp
            simp only [List.setIfInBounds_toArray, List.set_cons_zero, List.set_cons_succ]
            refine take_at 12 57 (.pointer (some ⟨b, 0, none⟩)) rfl rfl (by kernel_rfl) (by kernel_rfl) (by kernel_rfl) (fun _ _ _ h => h) hHeld (Or.inl ⟨by rfl, ?_⟩) ?_
            · rintro Z ⟨z0, z1, z2⟩
              go_simp
            simp only [List.setIfInBounds_toArray, List.set_cons_zero, List.set_cons_succ]
            refine take_at 13 58 (.int .i64 5) rfl rfl (by kernel_rfl) (by kernel_rfl) (by kernel_rfl) (fun _ _ _ h => h) hHeld (Or.inl ⟨by rfl, ?_⟩) ?_
            · rintro Z ⟨z0, z1, z2⟩
              go_simp
            simp only [List.setIfInBounds_toArray, List.set_cons_zero, List.set_cons_succ]
            refine take_at 16 61 (.slice (some ⟨gl, 0, none⟩) 2 vc) rfl rfl (by kernel_rfl) (by kernel_rfl) (by kernel_rfl) (fun _ _ _ h => h) hHeld (Or.inl ⟨by rfl, ?_⟩) ?_
            · rintro Z ⟨z0, z1, z2⟩
              go_simp
            simp only [List.setIfInBounds_toArray, List.set_cons_zero, List.set_cons_succ]
            refine take_at 17 62 (.pointer (some ⟨gl, 1, none⟩)) rfl rfl (by kernel_rfl) (by kernel_rfl) (by kernel_rfl) (fun _ _ _ h => h) hHeld (Or.inl ⟨by rfl, ?_⟩) ?_
            · rintro Z ⟨z0, z1, z2⟩
              go_simp
            simp only [List.setIfInBounds_toArray, List.set_cons_zero, List.set_cons_succ]
            refine take_at 18 63 (.string ⟨tz.toArray⟩) rfl rfl (by kernel_rfl) (by kernel_rfl) (by kernel_rfl) (fun _ _ _ h => h) hHeld (Or.inl ⟨by rfl, ?_⟩) ?_
            · rintro Z ⟨z0, z1, z2⟩
              go_simp
            simp only [List.setIfInBounds_toArray, List.set_cons_zero, List.set_cons_succ]
            refine only_one (i := 4) (by kernel_rfl) ?_
            refine wpOp_k rfl (by rfl) (fun K' hK => ?_)
            go_simp
            refine hK _ _ ⟨HKC.out _ HA.out, ?_⟩
            refine map_fork0 _ wr.heap.size wr.drew 5 6 7 8 4 5 7 8 [32, 38, 32] [32, 124, 32] [32, 85, 32] [32, 82, 32] _ _ (by unfold I64; omega) (by unfold I64; omega) (by unfold I64; omega) (by unfold I64; omega) (by decide) (by decide) (by decide) (by decide) (by decide) (by decide) (by simp) rfl (fun b1 b2 b3 b4 h => by cases b1 <;> cases b2 <;> cases b3 <;> cases b4 <;> first | (cases h; done) | kernel_rfl) (fun b2 b3 b4 => by cases b2 <;> cases b3 <;> cases b4 <;> kernel_rfl) (fun b2 b3 b4 => by cases b2 <;> cases b3 <;> cases b4 <;> kernel_rfl) (fun b2 b3 b4 => by cases b2 <;> cases b3 <;> cases b4 <;> kernel_rfl) (fun b2 b3 b4 => by cases b2 <;> cases b3 <;> cases b4 <;> kernel_rfl) ?_ ?_ ?_ ?_ (fun W hW => HKC.out W hW) ?_ _ HA.out (WS.made wr.drew)
            · intro z z' K r h
              refine wpOp_k rfl (by rfl) (fun K' hK => ?_)
              go_simp
              exact hK _ _ h
            · intro z z' K r h
              refine wpOp_k rfl (by rfl) (fun K' hK => ?_)
              go_simp
              exact hK _ _ h
            · intro z z' K r h
              refine wpOp_k rfl (by rfl) (fun K' hK => ?_)
              go_simp
              exact hK _ _ h
            · intro z z' K r h
              refine wpOp_k rfl (by rfl) (fun K' hK => ?_)
              go_simp
              exact hK _ _ h
            · intro W n D g hbW hws g4 g5 g7 g8
              have hlk := hws.lookN 5 HK64.out sg (HSG.out g g4 g5 g7 g8)
              have HBW := hide hbW
              clear hws g4 g5 g7 g8 hbW
              refine only_one (i := 9) (by kernel_rfl) ?_
              refine wpOp_k rfl (by rfl) (fun K' hK => ?_)
              go_simp
              refine hK _ _ ⟨HKC.out _ HBW.out, ?_⟩
              refine only_one (i := 14) (by kernel_rfl) ?_
              refine wpOp_k rfl (by rfl) (fun K' hK => ?_)
              go_simp
              refine hK _ _ ⟨HKC.out _ HBW.out, ?_⟩
              refine only_one (i := 15) (by kernel_rfl) ?_
              refine wpOp_k rfl (by rfl) (fun K' hK => ?_)
              go_simp
              refine hK _ _ ⟨HKC.out _ HBW.out, ?_⟩
              refine only_one (i := 19) (by kernel_rfl) ?_
              refine wpOp_k rfl (by rfl) (fun K' hK => ?_)
              go_simp
              refine hK _ _ ⟨HKC.out _ HBW.out, ?_⟩
              refine only_one (i := 20) (by kernel_rfl) ?_
              refine wpOp_k rfl (by rfl) (fun K' hK => ?_)
              go_simp
              refine hK _ _ ⟨HKC.out _ HBW.out, ?_⟩
              refine only_one (i := 21) (by kernel_rfl) ?_
              refine wpOp_k rfl (by rfl) (fun K' hK => ?_)
              go_simp
              refine hK _ _ ⟨HKC.out _ HBW.out, ?_⟩
              refine none_left (by kernel_rfl) ?_
              refine NoPanic.normal ?_
              go_wp2_with fail
              go_ret
              exact ⟨by rw [HT.out, ← HAP.out]; rfl, then_ (then_ HFB.out HDW.out) HBW.out⟩
          · go_wp2_with fail
            refine wp_region_noPanic ?_
            refine wp_region_held_drew (S := fun W => W.cell? ⟨b, 0, none⟩ = some (.int .i64 7) ∧ W.cell? ⟨gl, 0, none⟩ = some (.string ⟨ty.toArray⟩) ∧ W.cell? ⟨gl, 1, none⟩ = some (.string ⟨tz.toArray⟩)) (by kernel_rfl) (HKC.out _ (Below.refl _ _)) (fun hHeld => ?_)
            refine take_at 0 49 (.slice (some ⟨gl, 0, none⟩) 2 vc) rfl rfl (by kernel_rfl) (by kernel_rfl) (by kernel_rfl) (fun _ _ _ h => h) hHeld (Or.inl ⟨by rfl, ?_⟩) ?_
            · rintro Z ⟨z0, z1, z2⟩
              go_simp
            simp only [List.setIfInBounds_toArray, List.set_cons_zero, List.set_cons_succ]
            refine take_at 1 50 (.pointer (some ⟨gl, 0, none⟩)) rfl rfl (by kernel_rfl) (by kernel_rfl) (by kernel_rfl) (fun _ _ _ h => h) hHeld (Or.inl ⟨by rfl, ?_⟩) ?_
            · rintro Z ⟨z0, z1, z2⟩
              go_simp
            simp only [List.setIfInBounds_toArray, List.set_cons_zero, List.set_cons_succ]
            refine take_at 2 51 (.string ⟨ty.toArray⟩) rfl rfl (by kernel_rfl) (by kernel_rfl) (by kernel_rfl) (fun _ _ _ h => h) hHeld (Or.inl ⟨by rfl, ?_⟩) ?_
            · rintro Z ⟨z0, z1, z2⟩
              go_simp
            simp only [List.setIfInBounds_toArray, List.set_cons_zero, List.set_cons_succ]
            refine take_at 3 52 (.string (⟨#[40]⟩ ++ ⟨ty.toArray⟩)) rfl rfl (by kernel_rfl) (by kernel_rfl) (by kernel_rfl) (fun _ _ _ h => h) hHeld (Or.inl ⟨by rfl, ?_⟩) ?_
            · rintro Z ⟨z0, z1, z2⟩
              go_simp
            simp only [List.setIfInBounds_toArray, List.set_cons_zero, List.set_cons_succ]
            refine take_at 10 55 (.pointer (some ⟨b, 0, none⟩)) rfl rfl (by kernel_rfl) (by kernel_rfl) (by kernel_rfl) (fun _ _ _ h => h) hHeld (Or.inl ⟨by rfl, ?_⟩) ?_
            · rintro Z ⟨z0, z1, z2⟩
              go_simp
            simp only [List.setIfInBounds_toArray, List.set_cons_zero, List.set_cons_succ]
            refine take_at 11 56 (.pointer (some ⟨b, 0, none⟩)) rfl rfl (by kernel_rfl) (by kernel_rfl) (by kernel_rfl) (fun _ _ _ h => h) hHeld (Or.inl ⟨by rfl, ?_⟩) ?_
            · rintro Z ⟨z0, z1, z2⟩
              go_simp
            simp only [List.setIfInBounds_toArray, List.set_cons_zero, List.set_cons_succ]
            refine take_at 12 57 (.pointer (some ⟨b, 0, none⟩)) rfl rfl (by kernel_rfl) (by kernel_rfl) (by kernel_rfl) (fun _ _ _ h => h) hHeld (Or.inl ⟨by rfl, ?_⟩) ?_
            · rintro Z ⟨z0, z1, z2⟩
              go_simp
            simp only [List.setIfInBounds_toArray, List.set_cons_zero, List.set_cons_succ]
            refine take_at 13 58 (.int .i64 7) rfl rfl (by kernel_rfl) (by kernel_rfl) (by kernel_rfl) (fun _ _ _ h => h) hHeld (Or.inl ⟨by rfl, ?_⟩) ?_
            · rintro Z ⟨z0, z1, z2⟩
              go_simp
            simp only [List.setIfInBounds_toArray, List.set_cons_zero, List.set_cons_succ]
            refine take_at 16 61 (.slice (some ⟨gl, 0, none⟩) 2 vc) rfl rfl (by kernel_rfl) (by kernel_rfl) (by kernel_rfl) (fun _ _ _ h => h) hHeld (Or.inl ⟨by rfl, ?_⟩) ?_
            · rintro Z ⟨z0, z1, z2⟩
              go_simp
            simp only [List.setIfInBounds_toArray, List.set_cons_zero, List.set_cons_succ]
            refine take_at 17 62 (.pointer (some ⟨gl, 1, none⟩)) rfl rfl (by kernel_rfl) (by kernel_rfl) (by kernel_rfl) (fun _ _ _ h => h) hHeld (Or.inl ⟨by rfl, ?_⟩) ?_
            · rintro Z ⟨z0, z1, z2⟩
              go_simp
            simp only [List.setIfInBounds_toArray, List.set_cons_zero, List.set_cons_succ]
            refine take_at 18 63 (.string ⟨tz.toArray⟩) rfl rfl (by kernel_rfl) (by kernel_rfl) (by kernel_rfl) (fun _ _ _ h => h) hHeld (Or.inl ⟨by rfl, ?_⟩) ?_
            · rintro Z ⟨z0, z1, z2⟩
              go_simp
            simp only [List.setIfInBounds_toArray, List.set_cons_zero, List.set_cons_succ]
            refine only_one (i := 4) (by kernel_rfl) ?_
            refine wpOp_k rfl (by rfl) (fun K' hK => ?_)
            go_simp
            refine hK _ _ ⟨HKC.out _ HA.out, ?_⟩
            refine map_fork0 _ wr.heap.size wr.drew 5 6 7 8 4 5 7 8 [32, 38, 32] [32, 124, 32] [32, 85, 32] [32, 82, 32] _ _ (by unfold I64; omega) (by unfold I64; omega) (by unfold I64; omega) (by unfold I64; omega) (by decide) (by decide) (by decide) (by decide) (by decide) (by decide) (by simp) rfl (fun b1 b2 b3 b4 h => by cases b1 <;> cases b2 <;> cases b3 <;> cases b4 <;> first | (cases h; done) | kernel_rfl) (fun b2 b3 b4 => by cases b2 <;> cases b3 <;> cases b4 <;> kernel_rfl) (fun b2 b3 b4 => by cases b2 <;> cases b3 <;> cases b4 <;> kernel_rfl) (fun b2 b3 b4 => by cases b2 <;> cases b3 <;> cases b4 <;> kernel_rfl) (fun b2 b3 b4 => by cases b2 <;> cases b3 <;> cases b4 <;> kernel_rfl) ?_ ?_ ?_ ?_ (fun W hW => HKC.out W hW) ?_ _ HA.out (WS.made wr.drew)
            · intro z z' K r h
              refine wpOp_k rfl (by rfl) (fun K' hK => ?_)
              go_simp
              exact hK _ _ h
            · intro z z' K r h
              refine wpOp_k rfl (by rfl) (fun K' hK => ?_)
              go_simp
              exact hK _ _ h
            · intro z z' K r h
              refine wpOp_k rfl (by rfl) (fun K' hK => ?_)
              go_simp
              exact hK _ _ h
            · intro z z' K r h
              refine wpOp_k rfl (by rfl) (fun K' hK => ?_)
              go_simp
              exact hK _ _ h
            · intro W n D g hbW hws g4 g5 g7 g8
              have hlk := hws.lookN 7 HK64.out sg (HSG.out g g4 g5 g7 g8)
              have HBW := hide hbW
              clear hws g4 g5 g7 g8 hbW
              refine only_one (i := 9) (by kernel_rfl) ?_
              refine wpOp_k rfl (by rfl) (fun K' hK => ?_)
              go_simp
              refine hK _ _ ⟨HKC.out _ HBW.out, ?_⟩
              refine only_one (i := 14) (by kernel_rfl) ?_
              refine wpOp_k rfl (by rfl) (fun K' hK => ?_)
              go_simp
              refine hK _ _ ⟨HKC.out _ HBW.out, ?_⟩
              refine only_one (i := 15) (by kernel_rfl) ?_
              refine wpOp_k rfl (by rfl) (fun K' hK => ?_)
              go_simp
              refine hK _ _ ⟨HKC.out _ HBW.out, ?_⟩
              refine only_one (i := 19) (by kernel_rfl) ?_
              refine wpOp_k rfl (by rfl) (fun K' hK => ?_)
              go_simp
              refine hK _ _ ⟨HKC.out _ HBW.out, ?_⟩
              refine only_one (i := 20) (by kernel_rfl) ?_
              refine wpOp_k rfl (by rfl) (fun K' hK => ?_)
              go_simp
              refine hK _ _ ⟨HKC.out _ HBW.out, ?_⟩
              refine only_one (i := 21) (by kernel_rfl) ?_
              refine wpOp_k rfl (by rfl) (fun K' hK => ?_)
              go_simp
              refine hK _ _ ⟨HKC.out _ HBW.out, ?_⟩
              refine none_left (by kernel_rfl) ?_
              refine NoPanic.normal ?_
              go_wp2_with fail
              go_ret
              exact ⟨by rw [HT.out, ← HAP.out]; rfl, then_ (then_ HFB.out HDW.out) HBW.out⟩
          · go_wp2_with fail
            refine wp_region_noPanic ?_
            refine wp_region_held_drew (S := fun W => W.cell? ⟨b, 0, none⟩ = some (.int .i64 8) ∧ W.cell? ⟨gl, 0, none⟩ = some (.string ⟨ty.toArray⟩) ∧ W.cell? ⟨gl, 1, none⟩ = some (.string ⟨tz.toArray⟩)) (by kernel_rfl) (HKC.out _ (Below.refl _ _)) (fun hHeld => ?_)
            refine take_at 0 49 (.slice (some ⟨gl, 0, none⟩) 2 vc) rfl rfl (by kernel_rfl) (by kernel_rfl) (by kernel_rfl) (fun _ _ _ h => h) hHeld (Or.inl ⟨by rfl, ?_⟩) ?_
            · rintro Z ⟨z0, z1, z2⟩
              go_simp
            simp only [List.setIfInBounds_toArray, List.set_cons_zero, List.set_cons_succ]
            refine take_at 1 50 (.pointer (some ⟨gl, 0, none⟩)) rfl rfl (by kernel_rfl) (by kernel_rfl) (by kernel_rfl) (fun _ _ _ h => h) hHeld (Or.inl ⟨by rfl, ?_⟩) ?_
            · rintro Z ⟨z0, z1, z2⟩
              go_simp
            simp only [List.setIfInBounds_toArray, List.set_cons_zero, List.set_cons_succ]
            refine take_at 2 51 (.string ⟨ty.toArray⟩) rfl rfl (by kernel_rfl) (by kernel_rfl) (by kernel_rfl) (fun _ _ _ h => h) hHeld (Or.inl ⟨by rfl, ?_⟩) ?_
            · rintro Z ⟨z0, z1, z2⟩
              go_simp
            simp only [List.setIfInBounds_toArray, List.set_cons_zero, List.set_cons_succ]
            refine take_at 3 52 (.string (⟨#[40]⟩ ++ ⟨ty.toArray⟩)) rfl rfl (by kernel_rfl) (by kernel_rfl) (by kernel_rfl) (fun _ _ _ h => h) hHeld (Or.inl ⟨by rfl, ?_⟩) ?_
            · rintro Z ⟨z0, z1, z2⟩
              go_simp
            simp only [List.setIfInBounds_toArray, List.set_cons_zero, List.set_cons_succ]
            refine take_at 10 55 (.pointer (some ⟨b, 0, none⟩)) rfl rfl (by kernel_rfl) (by kernel_rfl) (by kernel_rfl) (fun _ _ _ h => h) hHeld (Or.inl ⟨by rfl, ?_⟩) ?_
            · rintro Z ⟨z0, z1, z2⟩
              go_simp
            simp only [List.setIfInBounds_toArray, List.set_cons_zero, List.set_cons_succ]
            refine take_at 11 56 (.pointer (some ⟨b, 0, none⟩)) rfl rfl (by kernel_rfl) (by kernel_rfl) (by kernel_rfl) (fun _ _ _ h => h) hHeld (Or.inl ⟨by rfl, ?_⟩) ?_
            · rintro Z ⟨z0, z1, z2⟩
              go_simp
            simp only [List.setIfInBounds_toArray, List.set_cons_zero, List.set_cons_succ]
            refine take_at 12 57 (.pointer (some ⟨b, 0, none⟩)) rfl rfl (by kernel_rfl) (by kernel_rfl) (by kernel_rfl) (fun _ _ _ h => h) hHeld (Or.inl ⟨by rfl, ?_⟩) ?_
            · rintro Z ⟨z0, z1, z2⟩
              go_simp
            simp only [List.setIfInBounds_toArray, List.set_cons_zero, List.set_cons_succ]
            refine take_at 13 58 (.int .i64 8) rfl rfl (by kernel_rfl) (by kernel_rfl) (by kernel_rfl) (fun _ _ _ h => h) hHeld (Or.inl ⟨by rfl, ?_⟩) ?_
            · rintro Z ⟨z0, z1, z2⟩
              go_simp
            simp only [List.setIfInBounds_toArray, List.set_cons_zero, List.set_cons_succ]
            refine take_at 16 61 (.slice (some ⟨gl, 0, none⟩) 2 vc) rfl rfl (by kernel_rfl) (by kernel_rfl) (by kernel_rfl) (fun _ _ _ h => h) hHeld (Or.inl ⟨by rfl, ?_⟩) ?_
            · rintro Z ⟨z0, z1, z2⟩
              go_simp
            simp only [List.setIfInBounds_toArray, List.set_cons_zero, List.set_cons_succ]
            refine take_at 17 62 (.pointer (some ⟨gl, 1, none⟩)) rfl rfl (by kernel_rfl) (by kernel_rfl) (by kernel_rfl) (fun _ _ _ h => h) hHeld (Or.inl ⟨by rfl, ?_⟩) ?_
            · rintro Z ⟨z0, z1, z2⟩
              go_simp
            simp only [List.setIfInBounds_toArray, List.set_cons_zero, List.set_cons_succ]
            refine take_at 18 63 (.string ⟨tz.toArray⟩) rfl rfl (by kernel_rfl) (by kernel_rfl) (by kernel_rfl) (fun _ _ _ h => h) hHeld (Or.inl ⟨by rfl, ?_⟩) ?_
            · rintro Z ⟨z0, z1, z2⟩
              go_simp
            simp only [List.setIfInBounds_toArray, List.set_cons_zero, List.set_cons_succ]
            refine only_one (i := 4) (by kernel_rfl) ?_
            refine wpOp_k rfl (by rfl) (fun K' hK => ?_)
            go_simp
            refine hK _ _ ⟨HKC.out _ HA.out, ?_⟩
            refine map_fork0 _ wr.heap.size wr.drew 5 6 7 8 4 5 7 8 [32, 38, 32] [32, 124, 32] [32, 85, 32] [32, 82, 32] _ _ (by unfold I64; omega) (by unfold I64; omega) (by unfold I64; omega) (by unfold I64; omega) (by decide) (by decide) (by decide) (by decide) (by decide) (by decide) (by simp) rfl (fun b1 b2 b3 b4 h => by cases b1 <;> cases b2 <;> cases b3 <;> cases b4 <;> first | (cases h; done) | kernel_rfl) (fun b2 b3 b4 => by cases b2 <;> cases b3 <;> cases b4 <;> kernel_rfl) (fun b2 b3 b4 => by cases b2 <;> cases b3 <;> cases b4 <;> kernel_rfl) (fun b2 b3 b4 => by cases b2 <;> cases b3 <;> cases b4 <;> kernel_rfl) (fun b2 b3 b4 => by cases b2 <;> cases b3 <;> cases b4 <;> kernel_rfl) ?_ ?_ ?_ ?_ (fun W hW => HKC.out W hW) ?_ _ HA.out (WS.made wr.drew)
            · intro z z' K r h
              refine wpOp_k rfl (by rfl) (fun K' hK => ?_)
              go_simp
              exact hK _ _ h
            · intro z z' K r h
              refine wpOp_k rfl (by rfl) (fun K' hK => ?_)
              go_simp
              exact hK _ _ h
            · intro z z' K r h
              refine wpOp_k rfl (by rfl) (fun K' hK => ?_)
              go_simp
              exact hK _ _ h
            · intro z z' K r h
              refine wpOp_k rfl (by rfl) (fun K' hK => ?_)
              go_simp
              exact hK _ _ h
            · intro W n D g hbW hws g4 g5 g7 g8
              have hlk := hws.lookN 8 HK64.out sg (HSG.out g g4 g5 g7 g8)
              have HBW := hide hbW
              clear hws g4 g5 g7 g8 hbW
              refine only_one (i := 9) (by kernel_rfl) ?_
              refine wpOp_k rfl (by rfl) (fun K' hK => ?_)
              go_simp
              refine hK _ _ ⟨HKC.out _ HBW.out, ?_⟩
              refine only_one (i := 14) (by kernel_rfl) ?_
              refine wpOp_k rfl (by rfl) (fun K' hK => ?_)
              go_simp
              refine hK _ _ ⟨HKC.out _ HBW.out, ?_⟩
              refine only_one (i := 15) (by kernel_rfl) ?_
              refine wpOp_k rfl (by rfl) (fun K' hK => ?_)
              go_simp
              refine hK _ _ ⟨HKC.out _ HBW.out, ?_⟩
              refine only_one (i := 19) (by kernel_rfl) ?_
              refine wpOp_k rfl (by rfl) (fun K' hK => ?_)
              go_simp
              refine hK _ _ ⟨HKC.out _ HBW.out, ?_⟩
              refine only_one (i := 20) (by kernel_rfl) ?_
              refine wpOp_k rfl (by rfl) (fun K' hK => ?_)
              go_simp
              refine hK _ _ ⟨HKC.out _ HBW.out, ?_⟩
              refine only_one (i := 21) (by kernel_rfl) ?_
              refine wpOp_k rfl (by rfl) (fun K' hK => ?_)
              go_simp
              refine hK _ _ ⟨HKC.out _ HBW.out, ?_⟩
              refine none_left (by kernel_rfl) ?_
              refine NoPanic.normal ?_
              go_wp2_with fail
              go_ret
              exact ⟨by rw [HT.out, ← HAP.out]; rfl, then_ (then_ HFB.out HDW.out) HBW.out⟩
end Ls
end Go.Proofs.YtmdblokmplbpmaaDoor
