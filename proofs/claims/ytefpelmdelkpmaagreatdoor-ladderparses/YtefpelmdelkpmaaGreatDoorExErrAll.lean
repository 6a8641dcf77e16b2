/-
  The walk of package ladder's takeName. Plain mathematics of chapter 1: where reading goes wrong lies within the text.
-/
import Derived.Test.YtefpelmdelkpmaaGreatDoorLdTakeAll
import Derived.Test.YtefpelmdelkpmaaGreatDoorExAdvAll
namespace Go.Proofs.YtefpelmdelkpmaaGreatDoor
section
open Go.RowKit
namespace Ld
/-- a name's line, its place kept already -/
def takeN (r : Rdg) (st : Nat) (line : List UInt8) : (Nat × Nat) ⊕ Rdg := match rdName (words line) with
  | none => .inl (3, st)
  | some n => if r.rungs = [] then .inr ⟨r.names ++ [n], r.rungs, r.starts⟩ else .inl (3, st)
theorem takeN_none (r : Rdg) (st : Nat) (line : List UInt8) (h : rdName (words line) = none) : takeN r st line = .inl (3, st) := by rw [takeN, h]
theorem takeN_some (r : Rdg) (st : Nat) (line : List UInt8) (n : Nme) (h : rdName (words line) = some n) (h0 : r.rungs = []) : takeN r st line = .inr ⟨r.names ++ [n], r.rungs, r.starts⟩ := by rw [takeN, h]; simp only [if_pos h0]
theorem takeN_late (r : Rdg) (st : Nat) (line : List UInt8) (n : Nme) (h : rdName (words line) = some n) (h0 : r.rungs ≠ []) : takeN r st line = .inl (3, st) := by rw [takeN, h]; simp only [if_neg h0]
end Ld
/-- what reading on comes to: an error at a place, or what was read by now; what lies between b and q stands -/
def Taken (b q : Nat) (w0 : World) (res : (Nat × Nat) ⊕ Ld.Rdg) (W : World) (e : Ending) (W' : World) : Prop :=
  Kq b q W W' ∧ match res with
    | .inl (er, p) => ∃ v, e = .returned v ∧ ErrIs W' v (some (er, some p)) ∧ Below b w0 W' ∧ FreshE q v
    | .inr r => e = .returned .nilIface ∧ Rdm b q w0 r W'
theorem Tryz.infoName : (Tryz.prog.info? 34).map (fun i => (i.zero, i.size, i.bytes)) = some (some (.agg #[.string ⟨#[]⟩, .int .i64 0, .int .i64 0]), 3, 32) := by kernel_rfl
theorem Tryz.infoRung : (Tryz.prog.info? 44).map (fun i => (i.zero, i.size, i.bytes)) = some (some (.agg #[.int .i64 0, .string ⟨#[]⟩, .nilIface]), 3, 40) := by kernel_rfl
theorem Tryz.infoInt : (Tryz.prog.info? 3).map (fun i => (i.zero, i.size, i.bytes)) = some (some (.int .i64 0), 1, 8) := by kernel_rfl
theorem words_len (s : List UInt8) (hs : s.length ≤ 20000) : ∀ y, y ∈ Ld.words s → y.length ≤ 20000 ∧ y ≠ [] := by
  intro y hy
  unfold Ld.words at hy
  rw [List.mem_filter] at hy
  have hne : y ≠ [] := by simpa using hy.2
  refine ⟨?_, hne⟩
  have key : ∀ (l : List UInt8) (z : List UInt8), z ∈ Ld.split 32 l → z.length ≤ l.length := by
    intro l
    induction l with
    | nil => intro z hz; simp [Ld.split] at hz; simp [hz]
    | cons a r ih =>
      intro z hz
      unfold Ld.split at hz
      by_cases h : a = 32
      · rw [if_pos h] at hz
        simp only [List.mem_cons] at hz
        rcases hz with rfl | hz
        · simp
        · have := ih z hz; simp; omega
      · rw [if_neg h] at hz
        cases hs : Ld.split 32 r with
        | nil => rw [hs] at hz; simp at hz; simp [hz]
        | cons x t =>
          rw [hs] at hz
          simp only [List.mem_cons] at hz
          rcases hz with rfl | hz
          · have := ih x (by rw [hs]; simp); simp; omega
          · have := ih z (by rw [hs]; simp [hz]); simp; omega
  have := key s y hy.1
  omega
set_option maxHeartbeats 4000000 in
set_option maxRecDepth 100000 in
theorem takeName_any (b q : Nat) (w0 : World) (r : Ld.Rdg) (st : Nat) (line : List UInt8) (W : World) (h : Rdm b q w0 r W) (hbq : b < q) (hq : q ≤ W.heap.size) (hl : line.length ≤ 20000) (hn : r.names.length ≤ 100000 ∧ r.rungs.length ≤ 100000) (hW : Words w0) (hN : NumErrs w0) (hP : Pows w0) (hG : 14 ≤ b) :
    Calls Tryz.prog 79 #[.pointer (some ⟨b, 0, none⟩), .int .i64 (st : Int), .string ⟨line.toArray⟩] W
      (Taken b q w0 (Ld.takeN r st line) W) := by
  have HT0 := hide (Ld.takeN_none r st line)
  have HT1 := hide (Ld.takeN_some r st line)
  have HT2 := hide (Ld.takeN_late r st line)
  generalize Ld.takeN r st line = res at *
  obtain ⟨nv, rv, sv, vs, hx⟩ := h
  have HX := hide hx
  have HWD := hide (words_any line W hl)
  have HWL := hide (words_len line hl)
  have HG := hide (fun W' (hb : Below W.heap.size W W') => (hx.lo.trans (hb.mono (Nat.le_of_lt hx.lt))))
  have HW0 := hide hW
  have HN0 := hide hN
  have HP0 := hide hP
  have hblt := hx.lt
  obtain ⟨na, nc, hnv⟩ := own_slice hx.on
  obtain ⟨ra, rc, hrv⟩ := own_slice hx.org
  obtain ⟨sa, sc, hsv⟩ := own_slice hx.os
  have HBX : Hid (∀ W', Below W.heap.size W W' → W'.cell? ⟨b, 0, none⟩ = some nv ∧ W'.cell? ⟨b, 1, none⟩ = some rv ∧ W'.cell? ⟨b, 2, none⟩ = some sv) := by
    intro W' hb
    have hh := (hx.below hb).blk
    exact ⟨by rw [Lib.cell_of_heap hh]; rfl, by rw [Lib.cell_of_heap hh]; rfl, by rw [Lib.cell_of_heap hh]; rfl⟩
  clear hx hW hN hP
  go_enter Tryz.func79, Tryz.ntmps79
  go_wp2_with fail
  refine HWD.out.mono ?_
  rintro e w1 ⟨wv, rfl, hstr, hb1⟩
  have HB1 := hide hb1
  have hlow1 := HG.out w1 hb1
  have HRN := hide (readName_any wv _ w1 hstr HWL.out (HW0.out.low hlow1 hG) (HN0.out.low hlow1 hG) (HP0.out.low hlow1 hG) (by have := hb1.size; omega))
  obtain ⟨wa, wn, wc, hwv⟩ : ∃ a n c, wv = .slice a n c := by
    rcases hstr with ⟨_, a, cap, h⟩ | ⟨g, o, cap, h, _⟩
    · exact ⟨_, _, _, h⟩
    · exact ⟨_, _, _, h⟩
  subst hwv
  clear hstr hb1 hlow1 HWD
  go_wp2_with fail
  refine HRN.out.mono ?_
  rintro e w2 ⟨nm, k, c, rfl, hsome, hb2⟩
  have HS := hide hsome
  have HB2 := hide (HB1.out.trans (hb2.mono HB1.out.size))
  clear hsome hb2 HRN HB1
  obtain ⟨w3, hw3⟩ : ∃ w3, w3 = w2.alloc (.cells #[.string ⟨nm.toArray⟩, .int .i64 k, .int .i64 c] 34) := ⟨_, rfl⟩
  have hb3 : Below W.heap.size W w3 := by rw [hw3]; exact HB2.out.alloc HB2.out.size _
  have HB3 := hide hb3
  have HW3 := hide hw3
  obtain ⟨b0, b1, b2⟩ := HBX.out w3 hb3
  obtain ⟨b0', b1', b2'⟩ := HBX.out w2 HB2.out
  have hs2 := HB2.out.size
  have hblt2 : b < w2.heap.size := by omega
  clear hb3 hw3
  generalize Ld.words line = wl at *
  cases hrn : Ld.rdName wl with
  | none =>
    have HRES := hide (HT0.out hrn)
    rw [show (none : Option Ld.Nme).isSome = false from rfl]
    have HF := hide (formAt_any st w3)
    rw [HW3.out] at HF
    clear HT0 HT1 HT2
    go_wp2_with fail
    refine HF.out.mono ?_
    rintro e w4 ⟨v, rfl, hv, hb4, hfe⟩
    have HFE : Hid (FreshE q v) := fun a h => Nat.le_trans (Nat.le_trans hq (Nat.le_trans HB3.out.size (by rw [HW3.out]; exact Nat.le_refl _))) (hfe a h)
    clear hfe
    rw [← HW3.out] at hb4
    have HV := hide hv
    have HB4 := hide (HB3.out.trans (hb4.mono HB3.out.size))
    obtain ⟨tu, yu, hiu⟩ : ∃ tu yu, v = .iface tu yu := by obtain ⟨a, h, _⟩ := hv; exact ⟨_, _, h⟩
    subst hiu
    clear hv hb4 HF
    go_wp2_with fail
    go_ret
    rw [HRES.out]
    exact ⟨Kq.below HB4.out hq, _, rfl, HV.out, HG.out _ HB4.out, HFE.out⟩
  | some n =>
    obtain ⟨hn1, hn2, hn3⟩ := HS.out n hrn
    subst hn1
    by_cases hr0 : r.rungs = []
    · have HRES := hide (HT1.out _ hrn hr0)
      have hrl : r.rungs.length = 0 := by rw [hr0]; rfl
      rw [hrl] at hrv
      rw [show (some (⟨nm, k, c⟩ : Ld.Nme)).isSome = true from rfl]
      obtain ⟨i0, hi0, hz0, hz1, hz2⟩ := info_parts Tryz.infoName
      have HX3 := hide (HX.out.below HB3.out)
      have HNB := hide hn2
      have HNC := hide hn3
      have HNL : Hid (nm.length ≤ 20000) := by
        show _ ≤ _
        have hq2 := hrn
        unfold Ld.rdName at hq2
        match wl, HWL, hq2 with
        | [w0', y], HWL, hq2 =>
          simp only at hq2
          split at hq2
          · cases hq2; exact (HWL.out _ (by simp)).1
          · cases hq2
        | [w0', y, z], HWL, hq2 =>
          simp only at hq2
          split at hq2
          · cases hz : Ld.rdCount z with
            | none => rw [hz] at hq2; cases hq2
            | some v => rw [hz] at hq2; cases hq2; exact (HWL.out _ (by simp)).1
          · cases hq2
        | [], _, hq2 => cases hq2
        | [_], _, hq2 => cases hq2
        | _ :: _ :: _ :: _ :: _, _, hq2 => cases hq2
      have hs3 : w3.heap.size = w2.heap.size + 1 := by rw [HW3.out]; simp
      have e0 : w3.cell? ⟨w2.heap.size, 0, none⟩ = some (.string ⟨nm.toArray⟩) := by rw [HW3.out]; simp [go_sem]
      have e1 : w3.cell? ⟨w2.heap.size, 1, none⟩ = some (.int .i64 k) := by rw [HW3.out]; simp [go_sem]
      have e2 : w3.cell? ⟨w2.heap.size, 2, none⟩ = some (.int .i64 c) := by rw [HW3.out]; simp [go_sem]
      have hqs : q ≤ w3.heap.size := by omega
      subst hnv
      subst hrv
      clear HT0 HT1 HT2 hr0
      have HOWN : Hid (∀ o, (w3.drew.alloc o).ownsRow q 34 3 (.slice na r.names.length nc) r.names.length (r.names.flatMap nmCells)) := fun o => (show w3.drew.ownsRow q 34 3 (.slice na r.names.length nc) r.names.length (r.names.flatMap nmCells) from HX3.out.on).alloc o
      have HONE : Hid (∀ u ∈ nmCells ⟨nm, k, c⟩, u.oneCell' = true) := by
        intro u hu
        simp only [nmCells, List.mem_cons, List.not_mem_nil, or_false] at hu
        rcases hu with rfl | rfl | rfl <;> rfl
      have HXA : Hid (∀ o, RdX b q w0 r (.slice na r.names.length nc) (.slice ra 0 rc) sv vs (w3.drew.alloc o)) := fun o => HX3.out.below (W' := w3.drew.alloc o) ⟨rfl, rfl, rfl, by simp, fun k hk => Below.heap_alloc _ _ _ hk⟩
      have HFIN : Hid (∀ (o : Obj) (g cap : Nat) (wA : World), wA.ownsRow q 34 3 (.slice (some ⟨g, 0, none⟩) (r.names.length + 1) cap) (r.names.length + 1) (r.names.flatMap nmCells ++ nmCells ⟨nm, k, c⟩) → (w3.drew.alloc o).grownBy wA (Value.slice na r.names.length nc).ownBlock → ((Value.slice na r.names.length nc).ownBlock = some g ∨ g = w3.heap.size + 1) →
          (wA.cell? ⟨b, 0, none⟩ = some (.slice na r.names.length nc) ∧ wA.frozen? ⟨b, 0, none⟩ = false) ∧ Taken b q w0 (.inr ⟨r.names ++ [⟨nm, k, c⟩], r.rungs, r.starts⟩) W (.returned .nilIface) (wA.setCell ⟨b, 0, none⟩ (.slice (some ⟨g, 0, none⟩) (r.names.length + 1) cap))) := by
        intro o g cap wA hown hgrow hat
        have hbk : wA.heap[b]? = some (.cells #[.slice na r.names.length nc, .slice ra 0 rc, sv] 102 (0, 0)) := by
          rw [hgrow.block b (by simp; omega) (fun e => by have := ((HXA.out o).on.lt b e.symm).1; omega)]
          exact (HXA.out o).blk
        have hput := (HXA.out o).putName hbq (by simp; omega) ⟨nm, k, c⟩ ⟨HNL.out, HNB.out, HNC.out⟩ g cap hown hgrow (by rcases hat with h | h; exact .inl h; right; rw [h]; simp)
        refine ⟨⟨by rw [Lib.cell_of_heap hbk]; rfl, Lib.frozen_of_heap hbk 0⟩, ?_, rfl, _, _, _, _, hput.1⟩
        exact (Kq.below (W' := w3.drew.alloc o) ⟨HB3.out.os, HB3.out.tape, HB3.out.output, by have := HB3.out.size; simp; omega, fun k hk => by rw [Below.heap_alloc _ _ _ (by have := HB3.out.size; show k < w3.heap.size; omega)]; exact HB3.out.block k hk⟩ hq).trans hput.2
      have hnl6 := hn.1
      have hb3s : b < w3.heap.size := by omega
      have hw23 : w2.heap.size < w3.heap.size := by omega
      clear HX3 HXA hs3
      go_wp2_with fail
      rw [← HW3.out]
      go_region_law (refine step_append_lies _ rfl (.tmp 33) (.tmp 35) 22 rfl q 34 i0 _ 3 32 Tryz.underlying22 hi0 hz0 hz1 hz2 rfl (by decide) (.slice na r.names.length nc) r.names.length (r.names.flatMap nmCells) rfl (HOWN.out _) ⟨w3.heap.size, 0, none⟩ 1 1 (nmCells ⟨nm, k, c⟩) rfl rfl (World.news_of_block (heap_alloc_new w3.drew _)) HONE.out (by decide) (by unfold maxLen; omega) (by omega) (by simp; omega) (w3.heap.size + 1) (by simp) ?_; intro g cap wA hown hgrow hat hltg; obtain ⟨⟨hcA, hfA⟩, hTA⟩ := HFIN.out _ g cap wA hown hgrow hat; have HTA := hide hTA; clear hTA)
      all_goals go_wp2_with fail
      all_goals go_ret
      all_goals
        rw [HRES.out]
        exact HTA.out
    · have HRES := hide (HT2.out _ hrn hr0)
      have hrl : 0 < r.rungs.length := List.length_pos_iff.2 hr0
      rw [show (some (⟨nm, k, c⟩ : Ld.Nme)).isSome = true from rfl]
      have HF := hide (formAt_any st w3)
      rw [HW3.out] at HF
      subst hrv
      clear HT0 HT1 HT2 hr0
      go_wp2_with fail
      refine HF.out.mono ?_
      rintro e w4 ⟨v, rfl, hv, hb4, hfe⟩
      have HFE : Hid (FreshE q v) := fun a h => Nat.le_trans (Nat.le_trans hq (Nat.le_trans HB3.out.size (by rw [HW3.out]; exact Nat.le_refl _))) (hfe a h)
      clear hfe
      rw [← HW3.out] at hb4
      have HV := hide hv
      have HB4 := hide (HB3.out.trans (hb4.mono HB3.out.size))
      obtain ⟨tu, yu, hiu⟩ : ∃ tu yu, v = .iface tu yu := by obtain ⟨a, h, _⟩ := hv; exact ⟨_, _, h⟩
      subst hiu
      clear hv hb4 HF
      go_wp2_with fail
      go_ret
      rw [HRES.out]
      exact ⟨Kq.below HB4.out hq, _, rfl, HV.out, HG.out _ HB4.out, HFE.out⟩
end
section
namespace Ex
def ErrB (l : List UInt8) (r : Nat → Res Ex) : Prop := ∀ i e p, i ≤ l.length → r i = .inl (e, p) → p ≤ l.length
theorem nameP_err (l : List UInt8) (k : Nat) : ErrB l (nameP l k) := by
  intro i e p hi h
  have h2 := skip_le l i hi
  unfold nameP at h
  simp only at h
  split at h
  · simp only [Sum.inl.injEq, Prod.mk.injEq] at h; omega
  · split at h
    · cases h
    · simp only [Sum.inl.injEq, Prod.mk.injEq] at h; omega
theorem listP_err (l : List UInt8) (sep : Nat) (hs : sep ≠ 32) (r : Nat → Res Ex) (hr : Adv l r) (he : ErrB l r) : ∀ f i e p, i ≤ l.length → listP l sep r f i = .inl (e, p) → p ≤ l.length := by
  intro f
  induction f with
  | zero => intro i e p hi h; simp only [listP, Sum.inl.injEq, Prod.mk.injEq] at h; omega
  | succ f ih =>
    intro i e p hi h
    unfold listP at h
    cases hri : r i with
    | inl q => rw [hri] at h; simp only [Sum.inl.injEq] at h; subst h; exact he i _ _ hi hri
    | inr q =>
      obtain ⟨x, j⟩ := q
      rw [hri] at h
      simp only at h
      have hj := hr i x j hi hri
      by_cases hsg : sg l (skip l j) = sep
      · rw [if_pos hsg] at h
        have hlt := sg_lt l (skip l j) (by rw [hsg]; exact hs)
        cases hm : listP l sep r f (skip l j + 1) with
        | inl q =>
          rw [hm] at h
          simp only [Sum.inl.injEq] at h
          subst h
          exact ih _ _ _ (by omega) hm
        | inr q => rw [hm] at h; cases h
      · rw [if_neg hsg] at h; cases h
theorem made_err (k : Nat) (q : Res (List Ex)) (e p : Nat) (h : made k q = .inl (e, p)) : q = .inl (e, p) := by
  match q, h with
  | .inl x, h => simp only [made, Sum.inl.injEq] at h; rw [h]
  | .inr ([], m), h => simp [made] at h
  | .inr ([x], m), h => simp [made] at h
  | .inr (x :: y :: t, m), h => simp [made] at h
theorem partP_err (l : List UInt8) (r : Nat → Res Ex) (hr : Adv l r) (he : ErrB l r) : ErrB l (partP l r) := fun i e p hi h => listP_err l 38 (by decide) r hr he _ i e p hi (made_err _ _ _ _ h)
theorem wholeP_err (l : List UInt8) (r : Nat → Res Ex) (hr : Adv l r) (he : ErrB l r) : ErrB l (wholeP l r) := fun i e p hi h => listP_err l 124 (by decide) _ (partP_adv l r hr) (partP_err l r hr he) _ i e p hi (made_err _ _ _ _ h)
theorem pieceP_err (l : List UInt8) : ∀ d, ErrB l (pieceP l d) := by
  intro d
  induction d with
  | zero => intro i e p hi h; have := skip_le l i hi; simp only [pieceP, Sum.inl.injEq, Prod.mk.injEq] at h; omega
  | succ d ih =>
    intro i e p hi h
    have h2 := skip_le l i hi
    unfold pieceP at h
    simp only at h
    by_cases c1 : sg l (skip l i) = 33
    · rw [if_pos c1] at h
      have hlt := sg_lt l (skip l i) (by rw [c1]; decide)
      cases hq : pieceP l d (skip l i + 1) with
      | inl q => rw [hq] at h; simp only [notP, Sum.inl.injEq] at h; subst h; exact ih _ _ _ (by omega) hq
      | inr q => rw [hq] at h; simp [notP] at h
    rw [if_neg c1] at h
    by_cases c2 : sg l (skip l i) = 40
    · rw [if_pos c2] at h
      have hlt := sg_lt l (skip l i) (by rw [c2]; decide)
      cases hq : wholeP l (pieceP l d) (skip l i + 1) with
      | inl q => rw [hq] at h; simp only [parP, Sum.inl.injEq] at h; subst h; exact wholeP_err l _ (pieceP_adv l d) ih _ _ _ (by omega) hq
      | inr q =>
        obtain ⟨x, m⟩ := q
        rw [hq] at h
        have hm := wholeP_adv l _ (pieceP_adv l d) _ _ _ (by omega) hq
        have := skip_le l m hm.2
        simp only [parP] at h
        split at h
        · cases h
        · simp only [Sum.inl.injEq, Prod.mk.injEq] at h; omega
    rw [if_neg c2] at h
    by_cases c3 : sg l (skip l i) = 48
    · rw [if_pos c3] at h; cases h
    rw [if_neg c3] at h
    by_cases c4 : sg l (skip l i) = 49
    · rw [if_pos c4] at h; cases h
    rw [if_neg c4] at h
    by_cases c5 : sg l (skip l i) = 94
    · rw [if_pos c5] at h
      have hlt := sg_lt l (skip l i) (by rw [c5]; decide)
      exact nameP_err l 3 _ _ _ (by omega) h
    rw [if_neg c5] at h
    by_cases c6 : sg l (skip l i) = 126
    · rw [if_pos c6] at h
      have hlt := sg_lt l (skip l i) (by rw [c6]; decide)
      exact nameP_err l 4 _ _ _ (by omega) h
    rw [if_neg c6] at h
    exact nameP_err l 2 _ _ _ h2 h
theorem parse_place (t : List UInt8) (e : Nat) (pl : Option Nat) (h : parse t = .inl (e, pl)) : pl.getD 0 ≤ t.length := by
  unfold parse at h
  split at h
  · simp only [Sum.inl.injEq, Prod.mk.injEq] at h; rw [← h.2]; simp
  · cases hq : wholeP t (pieceP t 20) 0 with
    | inl q =>
      rw [hq] at h
      simp only [Sum.inl.injEq, Prod.mk.injEq] at h
      rw [← h.2]
      exact wholeP_err t _ (pieceP_adv t 20) (pieceP_err t 20) 0 _ _ (Nat.zero_le _) hq
    | inr q =>
      obtain ⟨x, m⟩ := q
      rw [hq] at h
      simp only at h
      split at h
      · simp only [Sum.inl.injEq, Prod.mk.injEq] at h; rw [← h.2]; simp; omega
      · cases h
end Ex
end
end Go.Proofs.YtefpelmdelkpmaaGreatDoor
