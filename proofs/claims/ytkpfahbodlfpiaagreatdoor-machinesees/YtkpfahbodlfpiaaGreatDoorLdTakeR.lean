/-
  The walks of package ladder's takeRung and take.
-/
import Derived.Test.YtkpfahbodlfpiaaGreatDoorExErrAll
namespace Go.Proofs.YtkpfahbodlfpiaaGreatDoor
open Go.RowKit
namespace Ld
/-- a rung's line, its place kept already -/
def takeR (r : Rdg) (st : Nat) (head t : List UInt8) : (Nat × Nat) ⊕ Rdg := match rdHead (words head) with
  | none => .inl (3, st)
  | some (k, nm) => match Ex.parse t with
    | .inl (e, pl) => .inl (e, st + head.length + 1 + pl.getD 0)
    | .inr x => .inr ⟨r.names, r.rungs ++ [⟨(k : Int), nm, some x⟩], r.starts⟩
theorem takeR_none (r : Rdg) (st : Nat) (head t : List UInt8) (h : rdHead (words head) = none) : takeR r st head t = .inl (3, st) := by rw [takeR, h]
theorem takeR_err (r : Rdg) (st : Nat) (head t : List UInt8) (k : Nat) (nm : List UInt8) (h : rdHead (words head) = some (k, nm)) (e : Nat) (pl : Option Nat) (hp : Ex.parse t = .inl (e, pl)) : takeR r st head t = .inl (e, st + head.length + 1 + pl.getD 0) := by rw [takeR, h]; simp only [hp]
theorem takeR_some (r : Rdg) (st : Nat) (head t : List UInt8) (k : Nat) (nm : List UInt8) (h : rdHead (words head) = some (k, nm)) (x : Ex) (hp : Ex.parse t = .inr x) : takeR r st head t = .inr ⟨r.names, r.rungs ++ [⟨(k : Int), nm, some x⟩], r.starts⟩ := by rw [takeR, h]; simp only [hp]
theorem take_is (r : Rdg) (st : Nat) (line : List UInt8) : take r st line = match cutE line with
    | none => takeN ⟨r.names, r.rungs, r.starts ++ [st]⟩ st line
    | some (head, t) => takeR ⟨r.names, r.rungs, r.starts ++ [st]⟩ st head t := by
  unfold take takeN takeR
  cases cutE line with
  | none => rfl
  | some p => rfl
end Ld
set_option maxHeartbeats 4000000 in
set_option maxRecDepth 100000 in
theorem takeRung_any (b q : Nat) (w0 : World) (r : Ld.Rdg) (st : Nat) (head t : List UInt8) (W : World) (h : Rdm b q w0 r W) (hbq : b < q) (hq : q ≤ W.heap.size) (hl : head.length ≤ 20000 ∧ t.length ≤ 20000 ∧ st ≤ 1000000000) (hn : r.names.length ≤ 100000 ∧ r.rungs.length ≤ 100000) (hW : Words w0) (hD : ErAs.Door w0) (hG : 14 ≤ b) :
    Calls Tryz.prog 92 #[.pointer (some ⟨b, 0, none⟩), .int .i64 (st : Int), .string ⟨head.toArray⟩, .string ⟨t.toArray⟩] W (Taken b q w0 (Ld.takeR r st head t) W) := by
  have HT0 := hide (Ld.takeR_none r st head t)
  have HT1 := hide (Ld.takeR_err r st head t)
  have HT2 := hide (Ld.takeR_some r st head t)
  generalize Ld.takeR r st head t = res at *
  obtain ⟨nv, rv, sv, vs, hx⟩ := h
  have HX := hide hx
  have HWD := hide (words_any head W hl.1)
  have HWL := hide (words_len head hl.1)
  have HG := hide (fun W' (hb : Below W.heap.size W W') => (hx.lo.trans (hb.mono (Nat.le_of_lt hx.lt))))
  have HW0 := hide hW
  have HD0 := hide hD
  have hblt := hx.lt
  obtain ⟨na, nc, hnv⟩ := own_slice hx.on
  obtain ⟨ra, rc, hrv⟩ := own_slice hx.org
  obtain ⟨sa, sc, hsv⟩ := own_slice hx.os
  have HBX : Hid (∀ W', Below W.heap.size W W' → W'.cell? ⟨b, 0, none⟩ = some nv ∧ W'.cell? ⟨b, 1, none⟩ = some rv ∧ W'.cell? ⟨b, 2, none⟩ = some sv) := by
    intro W' hb
    have hh := (hx.below hb).blk
    exact ⟨by rw [Lib.cell_of_heap hh]; rfl, by rw [Lib.cell_of_heap hh]; rfl, by rw [Lib.cell_of_heap hh]; rfl⟩
  clear hx hW hD
  go_enter Tryz.func92, Tryz.ntmps92
  go_wp2_with fail
  refine HWD.out.mono ?_
  rintro e w1 ⟨wv, rfl, hstr, hb1⟩
  have HB1 := hide hb1
  have hlow1 := HG.out w1 hb1
  have HRN := hide (readHead_any wv _ w1 hstr HWL.out (HW0.out.low hlow1 hG) (by have := hb1.size; omega))
  obtain ⟨wa, wn, wc, hwv⟩ : ∃ a n c, wv = .slice a n c := by
    rcases hstr with ⟨_, a, cap, h⟩ | ⟨g, o, cap, h, _⟩
    · exact ⟨_, _, _, h⟩
    · exact ⟨_, _, _, h⟩
  subst hwv
  clear hstr hb1 hlow1 HWD
  go_wp2_with fail
  refine HRN.out.mono ?_
  rintro e w2 ⟨k, nm, rfl, hsome, hb2⟩
  have HS := hide hsome
  have HB2 := hide (HB1.out.trans (hb2.mono HB1.out.size))
  clear hsome hb2 HRN HB1
  obtain ⟨w3, hw3⟩ : ∃ w3, w3 = w2.alloc (.cells #[.int .i64 (k : Int), .string ⟨nm.toArray⟩, .nilIface] 131) := ⟨_, rfl⟩
  have hb3 : Below W.heap.size W w3 := by rw [hw3]; exact HB2.out.alloc HB2.out.size _
  have HB3 := hide hb3
  have HW3 := hide hw3
  have hs2 := HB2.out.size
  have hs3 : w3.heap.size = w2.heap.size + 1 := by rw [hw3]; simp
  have hblt2 : b < w2.heap.size := by omega
  have hnew3 : w3.heap[w2.heap.size]? = some (.cells #[.int .i64 (k : Int), .string ⟨nm.toArray⟩, .nilIface] 131 (0, 0)) := by rw [hw3]; exact heap_alloc_new w2 _
  have HNEW := hide hnew3
  have HS3 := hide hs3
  clear hb3 hw3 hnew3 hs3
  generalize hwl : Ld.words head = wl at *
  clear hwl
  cases hrn : Ld.rdHead wl with
  | none =>
    have HRES := hide (HT0.out hrn)
    rw [show (none : Option (Nat × List UInt8)).isSome = false from rfl]
    have HF := hide (formAt_any st w3)
    rw [HW3.out] at HF
    clear HT0 HT1 HT2
    go_wp2_with fail
    refine HF.out.mono ?_
    rintro e w4 ⟨v, rfl, hv, hb4, hfe⟩
    have HFE : Hid (FreshE q v) := fun a h => Nat.le_trans (Nat.le_trans hq (Nat.le_trans HB3.out.size (by rw [HW3.out]; exact Nat.le_refl _))) (hfe a h)
    clear hfe
    rw [← HW3.out] at hb4
    have HV := hide hv
    have HB4 := hide (HB3.out.trans (hb4.mono HB3.out.size))
    obtain ⟨tu, yu, hiu⟩ : ∃ tu yu, v = .iface tu yu := by obtain ⟨a, h, _⟩ := hv; exact ⟨_, _, h⟩
    subst hiu
    clear hv hb4 HF
    go_wp2_with fail
    go_ret
    rw [HRES.out]
    exact ⟨Kq.below HB4.out hq, _, rfl, HV.out, HG.out _ HB4.out, HFE.out⟩
  | some p =>
    obtain ⟨hn1, hk6⟩ := HS.out p hrn
    subst hn1
    rw [show (some ((k, nm) : Nat × List UInt8)).isSome = true from rfl]
    have et : (⟨t.toArray⟩ : ByteArray).data.toList = t := rfl
    have HPA := hide (Parse_any ⟨t.toArray⟩ w3 (by show t.toArray.size ≤ maxLen; rw [List.size_toArray]; unfold maxLen; omega))
    rw [et] at HPA
    clear et
    have HPL := hide (Ex.parse_place t)
    rw [HW3.out] at HPA
    cases hpt : Ex.parse t with
    | inl ep =>
      obtain ⟨er, pl⟩ := ep
      have HRES := hide (HT1.out k nm hrn er pl hpt)
      have hpl := HPL.out er pl hpt
      rw [hpt] at HPA
      clear HT0 HT1 HT2 HPL hpt
      go_wp2_with fail
      refine HPA.out.mono ?_
      rintro e w4 ⟨hb4, hm4⟩
      rw [← HW3.out] at hb4 hm4
      have HB4 := hide (HB3.out.trans (hb4.mono HB3.out.size))
      obtain ⟨v, he4, hv4⟩ : ∃ v, e = .returned (.tuple #[.nilIface, v]) ∧ ErrIs w4 v (some (er, pl)) := by
        match pl, hm4 with
        | none, hm4 => exact ⟨_, hm4, rfl⟩
        | some pp, ⟨v, h1, a, _, h2, h3, h4⟩ => exact ⟨v, h1, a, h2, h3, h4⟩
      subst he4
      have g4 := (hb4.block w2.heap.size (by rw [HS3.out]; omega)).trans HNEW.out
      have d2 : w4.cell? ⟨w2.heap.size, 2, none⟩ = some .nilIface := by rw [Lib.cell_of_heap g4]; rfl
      have f2 : w4.frozen? ⟨w2.heap.size, 2, none⟩ = false := Lib.frozen_of_heap g4 2
      obtain ⟨w5, hw5⟩ : ∃ w5, w5 = w4.setCell ⟨w2.heap.size, 2, none⟩ .nilIface := ⟨_, rfl⟩
      have hbs : Below W.heap.size W w5 := by rw [hw5]; exact HB4.out.setCell (by simp; omega) _
      have hv5 : ErrIs w5 v (some (er, pl)) := by
        match pl, hv4 with
        | none, h => exact h
        | some pp, ⟨a, h1, h2, h3⟩ =>
          have hne : a ≠ w2.heap.size := by
            intro e2
            rw [e2, Lib.cell_of_heap g4] at h3
            simp at h3
          exact ⟨a, h1, by rw [hw5, World.cell?_setCell_other _ _ _ _ (by simp)]; exact h2, by rw [hw5, World.cell?_setCell_other _ _ _ _ (by simp)]; exact h3⟩
      have hd5 : ErAs.Door w5 := by
        have hlow := HG.out w5 hbs
        exact (hlow.cell (p := ⟨6, 0, none⟩) (Nat.lt_of_lt_of_le (by decide : 6 < 14) hG)).trans HD0.out
      have HMV := hide (moved_any v er pl (st + head.length + 1) w5 hv5 hd5 (by omega))
      have HBS := hide hbs
      have HW5 := hide hw5
      obtain ⟨tu, yu, hiu⟩ : ∃ tu yu, v = .iface tu yu := by
        match pl, hv4 with
        | none, h => exact ⟨_, _, h⟩
        | some pp, ⟨a, h1, _⟩ => exact ⟨_, _, h1⟩
      subst hiu
      rw [hw5] at HMV
      have hcast : ((st + head.length + 1 : Nat) : Int) = (st : Int) + (head.length : Int) + 1 := by omega
      rw [hcast] at HMV
      have ehl : (⟨head.toArray⟩ : ByteArray).size = head.length := by simp [ByteArray.size]
      clear hm4 hv4 hv5 hd5 hbs hw5 hb4 g4 HPA hcast
      go_wp2_with fail
      refine HMV.out.mono ?_
      rintro e w6 ⟨u, rfl, hu, hb6, hfe⟩
      rw [← HW5.out] at hb6 hfe
      have HFE : Hid (FreshE q u) := fun a h => Nat.le_trans (Nat.le_trans hq HBS.out.size) (hfe a h)
      clear hfe
      have HU := hide hu
      have HB6 := hide (HBS.out.trans (hb6.mono HBS.out.size))
      obtain ⟨tu2, yu2, hiu2⟩ : ∃ tu yu, u = .iface tu yu := by obtain ⟨a, h, _⟩ := hu; exact ⟨_, _, h⟩
      subst hiu2
      clear hu hb6 HMV
      go_wp2_with fail
      go_ret
      rw [HRES.out]
      exact ⟨Kq.below HB6.out hq, _, rfl, HU.out, HG.out _ HB6.out, HFE.out⟩
    | inr x =>
      have HRES := hide (HT2.out k nm hrn x hpt)
      have HPX := hide hpt
      have HNL : Hid (nm.length ≤ 20000) := by
        show _ ≤ _
        have hq2 := hrn
        unfold Ld.rdHead at hq2
        match wl, HWL, hq2 with
        | [y], HWL, hq2 => cases hq2; exact (HWL.out _ (by simp)).1
        | [w0', y], HWL, hq2 =>
          simp only at hq2
          split at hq2
          · cases hq2
          · cases hq2; exact (HWL.out _ (by simp)).1
        | [], _, hq2 => cases hq2
        | _ :: _ :: _ :: _, _, hq2 => cases hq2
      rw [hpt] at HPA
      clear HT0 HT1 HT2 HPL hpt
      obtain ⟨i0, hi0, hz0, hz1, hz2⟩ := info_parts Tryz.infoRung
      go_wp2_with fail
      refine HPA.out.mono ?_
      rintro e w4 ⟨hb4, v, rfl, hxv⟩
      rw [← HW3.out] at hb4 hxv
      have HB4 := hide (HB3.out.trans (hb4.mono HB3.out.size))
      have g4 := (hb4.block w2.heap.size (by rw [HS3.out]; omega)).trans HNEW.out
      have d2 : w4.cell? ⟨w2.heap.size, 2, none⟩ = some .nilIface := by rw [Lib.cell_of_heap g4]; rfl
      have f2 : w4.frozen? ⟨w2.heap.size, 2, none⟩ = false := Lib.frozen_of_heap g4 2
      obtain ⟨w5, hw5⟩ : ∃ w5, w5 = w4.setCell ⟨w2.heap.size, 2, none⟩ v := ⟨_, rfl⟩
      have hbs : Below W.heap.size W w5 := by rw [hw5]; exact HB4.out.setCell (by simp; omega) _
      have g5 : w5.heap[w2.heap.size]? = some (.cells #[.int .i64 (k : Int), .string ⟨nm.toArray⟩, v] 131 (0, 0)) := by
        rw [hw5]
        simp [World.setCell, Array.getElem?_modify, g4]
      have e0 : w5.cell? ⟨w2.heap.size, 0, none⟩ = some (.int .i64 (k : Int)) := by rw [Lib.cell_of_heap g5]; rfl
      have e1 : w5.cell? ⟨w2.heap.size, 1, none⟩ = some (.string ⟨nm.toArray⟩) := by rw [Lib.cell_of_heap g5]; rfl
      have e2 : w5.cell? ⟨w2.heap.size, 2, none⟩ = some v := by rw [Lib.cell_of_heap g5]; rfl
      have hx5 : IsEx (okX q nv rv sv) w5 x v := by
        refine IsEx.stay (ok := fun g => w3.heap.size ≤ g) (w := w4) ?_ ?_ x v hxv
        · intro g i u hg hc
          rw [hw5, World.cell?_setCell_other _ _ _ _ (by
            have h3 := HS3.out
            intro e
            have h4 : w2.heap.size = g := congrArg Addr.block e
            omega)]
          exact hc
        · intro g hg
          have hs3 := HS3.out
          refine ⟨by omega, fun e => ?_, fun e => ?_, fun e => ?_⟩
          · have := (HX.out.on.lt g e.symm).2; omega
          · have := (HX.out.org.lt g e.symm).2; omega
          · have := (HX.out.os.lt g e.symm).2; omega
      have HX5 := hide (HX.out.below hbs)
      have HXV := hide hx5
      have HBS := hide hbs
      have HW5 := hide hw5
      have hs5 := hbs.size
      have hqs : q ≤ w5.heap.size := by omega
      obtain ⟨b0, b1, b2⟩ := HBX.out w5 hbs
      obtain ⟨tu, yu, hiu⟩ := IsEx.iface x v hxv
      subst hiu
      subst hrv
      have HOWN : Hid (∀ o, (w5.drew.alloc o).ownsRow q 131 3 (.slice ra r.rungs.length rc) r.rungs.length ((r.rungs.zip vs).flatMap rgCells)) := fun o => (show w5.drew.ownsRow q 131 3 (.slice ra r.rungs.length rc) r.rungs.length ((r.rungs.zip vs).flatMap rgCells) from HX5.out.org).alloc o
      have HONE : Hid (∀ u ∈ [Value.int .i64 (k : Int), .string ⟨nm.toArray⟩, .iface tu yu], u.oneCell' = true) := by
        intro u hu
        simp only [List.mem_cons, List.not_mem_nil, or_false] at hu
        rcases hu with rfl | rfl | rfl <;> rfl
      have hbo : ∀ o, Below w5.heap.size w5 (w5.drew.alloc o) := fun o => ⟨rfl, rfl, rfl, by simp, fun k hk => Below.heap_alloc _ _ _ hk⟩
      have HXA : Hid (∀ o, RdX b q w0 r nv (.slice ra r.rungs.length rc) sv vs (w5.drew.alloc o)) := fun o => HX5.out.below (hbo o)
      have HFIN : Hid (∀ (o : Obj) (g cap : Nat) (wA : World), wA.ownsRow q 131 3 (.slice (some ⟨g, 0, none⟩) (r.rungs.length + 1) cap) (r.rungs.length + 1) ((r.rungs.zip vs).flatMap rgCells ++ [Value.int .i64 (k : Int), .string ⟨nm.toArray⟩, .iface tu yu]) → (w5.drew.alloc o).grownBy wA (Value.slice ra r.rungs.length rc).ownBlock → ((Value.slice ra r.rungs.length rc).ownBlock = some g ∨ g = w5.heap.size + 1) →
          (wA.cell? ⟨b, 1, none⟩ = some (.slice ra r.rungs.length rc) ∧ wA.frozen? ⟨b, 1, none⟩ = false) ∧ Taken b q w0 (.inr ⟨r.names, r.rungs ++ [⟨(k : Int), nm, some x⟩], r.starts⟩) W (.returned .nilIface) (wA.setCell ⟨b, 1, none⟩ (.slice (some ⟨g, 0, none⟩) (r.rungs.length + 1) cap))) := by
        intro o g cap wA hown hgrow hat
        have hbk : wA.heap[b]? = some (.cells #[nv, .slice ra r.rungs.length rc, sv] 119 (0, 0)) := by
          rw [hgrow.block b (by simp; omega) (fun e => by have := ((HXA.out o).org.lt b e.symm).1; omega)]
          exact (HXA.out o).blk
        have hput := (HXA.out o).putRung hbq (by simp; omega) (k : Int) nm x (.iface tu yu) t ⟨HNL.out, by unfold I64; omega⟩ HPX.out (IsEx.stay (Stay.below (hbo o)) (fun _ h => h) x _ HXV.out) g cap hown hgrow (by rcases hat with h | h; exact .inl h; right; rw [h]; simp)
        refine ⟨⟨by rw [Lib.cell_of_heap hbk]; rfl, Lib.frozen_of_heap hbk 1⟩, ?_, rfl, _, _, _, _, hput.1⟩
        exact (Kq.below (HBS.out.trans ((hbo o).mono HBS.out.size)) hq).trans hput.2
      have hnl6 := hn.2
      have hw25 : w2.heap.size < w5.heap.size := (Array.getElem?_eq_some_iff.1 g5).1
      have hb5s : b < w5.heap.size := by omega
      clear HX5 HXA hbo hxv hx5 hbs hw5 hb4 g4 g5 HPA
      go_wp2_with fail
      rw [← HW5.out]
      go_region_law (refine step_append_lies _ rfl (.tmp 42) (.tmp 44) 24 rfl q 131 i0 _ 3 40 Tryz.underlying24 hi0 hz0 hz1 hz2 rfl (by decide) (.slice ra r.rungs.length rc) r.rungs.length ((r.rungs.zip vs).flatMap rgCells) rfl (HOWN.out _) ⟨w5.heap.size, 0, none⟩ 1 1 [Value.int .i64 (k : Int), .string ⟨nm.toArray⟩, .iface tu yu] rfl rfl (World.news_of_block (heap_alloc_new w5.drew _)) HONE.out (by decide) (by unfold maxLen; omega) (by omega) (by simp; omega) (w5.heap.size + 1) (by simp) ?_; intro g cap wA hown hgrow hat hltg; obtain ⟨⟨hcA, hfA⟩, hTA⟩ := HFIN.out _ g cap wA hown hgrow hat; have HTA := hide hTA; clear hTA)
      all_goals go_wp2_with fail
      all_goals go_ret
      all_goals
        rw [HRES.out]
        exact HTA.out
theorem cutE_len (l a t : List UInt8) (h : Ld.cutE l = some (a, t)) : a.length ≤ l.length ∧ t.length ≤ l.length := by
  unfold Ld.cutE at h
  split at h
  · simp only [Option.some.injEq, Prod.mk.injEq] at h
    obtain ⟨rfl, rfl⟩ := h
    refine ⟨(List.takeWhile_sublist _).length_le, ?_⟩
    rw [List.length_drop]
    have := (List.dropWhile_sublist (l := l) (fun c => c != 61)).length_le
    omega
  · cases h
theorem Rdm.below {b q : Nat} {w0 : World} {r : Ld.Rdg} {W W' : World} (h : Rdm b q w0 r W) (hb : Below W.heap.size W W') : Rdm b q w0 r W' := by
  obtain ⟨nv, rv, sv, vs, hx⟩ := h
  exact ⟨nv, rv, sv, vs, hx.below hb⟩
theorem Taken.after {b q : Nat} {w0 : World} {res : (Nat × Nat) ⊕ Ld.Rdg} {A B : World} {e : Ending} {C : World} (h : Taken b q w0 res B e C) (hk : Kq b q A B) : Taken b q w0 res A e C := ⟨hk.trans h.1, h.2⟩
set_option maxHeartbeats 4000000 in
set_option maxRecDepth 100000 in
theorem take_any (b q : Nat) (w0 : World) (r : Ld.Rdg) (st : Nat) (line : List UInt8) (W : World) (h : Rdm b q w0 r W) (hbq : b < q) (hq : q ≤ W.heap.size) (hl : line.length ≤ 20000 ∧ st ≤ 1000000000) (hn : r.names.length ≤ 100000 ∧ r.rungs.length ≤ 100000 ∧ r.starts.length ≤ 100000) (hW : Words w0) (hN : NumErrs w0) (hP : Pows w0) (hD : ErAs.Door w0) (hG : 14 ≤ b) :
    Calls Tryz.prog 57 #[.pointer (some ⟨b, 0, none⟩), .int .i64 (st : Int), .string ⟨line.toArray⟩] W (Taken b q w0 (Ld.take r st line) W) := by
  have HIS := hide (Ld.take_is r st line)
  generalize Ld.take r st line = res at *
  obtain ⟨nv, rv, sv, vs, hx⟩ := h
  obtain ⟨i0, hi0, hz0, hz1, hz2⟩ := info_parts Tryz.infoInt
  obtain ⟨sa, sc, hsv⟩ := own_slice hx.os
  subst hsv
  have hblt := hx.lt
  have HX := hide hx
  have b2 : W.cell? ⟨b, 2, none⟩ = some (.slice sa r.starts.length sc) := by rw [Lib.cell_of_heap hx.blk]; rfl
  have hXA : ∀ o, RdX b q w0 r nv rv (.slice sa r.starts.length sc) vs (W.alloc o) := fun o => hx.below ((Below.refl _ W).alloc (Nat.le_refl _) o)
  have HOWN : Hid (∀ o, (W.alloc o).ownsRow q 3 1 (.slice sa r.starts.length sc) r.starts.length (r.starts.map intV)) := fun o => (hXA o).os
  have HFIN : Hid (∀ (o : Obj) (g cap : Nat) (wA : World), wA.ownsRow q 3 1 (.slice (some ⟨g, 0, none⟩) (r.starts.length + 1) cap) (r.starts.length + 1) (r.starts.map intV ++ [intV st]) → (W.alloc o).grownBy wA (Value.slice sa r.starts.length sc).ownBlock → ((Value.slice sa r.starts.length sc).ownBlock = some g ∨ g = W.heap.size + 1) →
      (wA.cell? ⟨b, 2, none⟩ = some (.slice sa r.starts.length sc) ∧ wA.frozen? ⟨b, 2, none⟩ = false) ∧ Rdm b q w0 ⟨r.names, r.rungs, r.starts ++ [st]⟩ (wA.setCell ⟨b, 2, none⟩ (.slice (some ⟨g, 0, none⟩) (r.starts.length + 1) cap)) ∧ Kq b q W (wA.setCell ⟨b, 2, none⟩ (.slice (some ⟨g, 0, none⟩) (r.starts.length + 1) cap))) := by
    intro o g cap wA hown hgrow hat
    have hbk : wA.heap[b]? = some (.cells #[nv, rv, .slice sa r.starts.length sc] 119 (0, 0)) := by
      rw [hgrow.block b (by simp; omega) (fun e => by have := ((hXA o).os.lt b e.symm).1; omega)]
      exact (hXA o).blk
    have hput := (hXA o).putStart hbq (by simp; omega) st g cap hown hgrow (by rcases hat with h | h; exact .inl h; right; rw [h]; simp)
    exact ⟨⟨by rw [Lib.cell_of_heap hbk]; rfl, Lib.frozen_of_heap hbk 2⟩, ⟨_, _, _, _, hput.1⟩, (Kq.below ((Below.refl _ W).alloc (Nat.le_refl _) o) hq).trans hput.2⟩
  have HCUT := hide (fun w => Cut_any line w hl.1)
  have HTN := hide (fun (w : World) (h : Rdm b q w0 ⟨r.names, r.rungs, r.starts ++ [st]⟩ w) (hq : q ≤ w.heap.size) => takeName_any b q w0 ⟨r.names, r.rungs, r.starts ++ [st]⟩ st line w h hbq hq hl.1 ⟨hn.1, hn.2.1⟩ hW hN hP hG)
  have HTR := hide (fun (head t : List UInt8) (w : World) (h : Rdm b q w0 ⟨r.names, r.rungs, r.starts ++ [st]⟩ w) (hq : q ≤ w.heap.size) (hlen : head.length ≤ 20000 ∧ t.length ≤ 20000) => takeRung_any b q w0 ⟨r.names, r.rungs, r.starts ++ [st]⟩ st head t w h hbq hq ⟨hlen.1, hlen.2, hl.2⟩ ⟨hn.1, hn.2.1⟩ hW hD hG)
  have hn3 := hn.2.2
  have HONE : Hid (∀ u ∈ [Value.int .i64 (st : Int)], u.oneCell' = true) := by
    intro u hu
    simp only [List.mem_cons, List.not_mem_nil, or_false] at hu
    subst hu; rfl
  clear hx hXA hW hN hP hD
  go_enter Tryz.func57, Tryz.ntmps57
  go_wp2_with (at_builtin; refine wpList_append_lies _ rfl (.tmp 14) (.tmp 16) 22 rfl q 3 i0 _ 1 8 Tryz.underlying22 hi0 hz0 hz1 hz2 rfl (by decide) (.slice sa r.starts.length sc) r.starts.length (r.starts.map intV) rfl (HOWN.out _) ⟨W.heap.size, 0, none⟩ 1 1 [.int .i64 (st : Int)] rfl rfl (World.news_of_block (heap_alloc_new W _)) HONE.out (by decide) (by unfold maxLen; omega) (by omega) (by simp; omega) (W.heap.size + 1) (by simp) ?_; intro g cap wA hown hgrow hat hltg; obtain ⟨⟨hcA, hfA⟩, hRA, hKA⟩ := HFIN.out _ g cap wA hown hgrow hat; have HRA := hide hRA; have HKA := hide hKA; clear hRA hKA)
  have hcl := cutE_len line
  have HCUT1 := hide (HCUT.out (wA.setCell ⟨b, 2, none⟩ (.slice (some ⟨g, 0, none⟩) (r.starts.length + 1) cap)))
  have hszA : q ≤ (wA.setCell ⟨b, 2, none⟩ (.slice (some ⟨g, 0, none⟩) (r.starts.length + 1) cap)).heap.size := Nat.le_trans hq HKA.out.1
  obtain ⟨w1, hw1⟩ : ∃ w1, w1 = wA.setCell ⟨b, 2, none⟩ (.slice (some ⟨g, 0, none⟩) (r.starts.length + 1) cap) := ⟨_, rfl⟩
  rw [← hw1] at HCUT1 hszA HRA HKA
  rw [← hw1]
  clear hw1 hown hgrow hat hltg hcA hfA HCUT HFIN HOWN HONE
  have HQ := hide hszA
  have hdn : ∀ n, Below w1.heap.size w1 (w1.drewN n) := fun n => ⟨rfl, rfl, rfl, Nat.le_refl _, fun _ _ => rfl⟩
  have HRD := hide (fun n => HRA.out.below (hdn n))
  have HKD : Hid (∀ n, Kq b q W (w1.drewN n)) := fun n => HKA.out.trans (Kq.below (hdn n) HQ.out)
  have HQD : Hid (∀ n, q ≤ (w1.drewN n).heap.size) := fun n => HQ.out
  clear hdn hszA
  generalize hc : Ld.cutE line = o at *
  match o, HIS, HCUT1, hcl with
  | none, HIS, HCUT1, _ =>
    refine HCUT1.out.mono ?_
    rintro e w2 ⟨⟨n, rfl⟩, rfl⟩
    have HT := hide (HTN.out _ (HRD.out n) (HQD.out n))
    have HRS : Hid (res = Ld.takeN ⟨r.names, r.rungs, r.starts ++ [st]⟩ st line) := HIS.out
    clear HIS HCUT1 HTN HTR
    go_wp2_with fail
    refine HT.out.mono ?_
    rintro e w3 h3
    have H3 := hide h3
    obtain ⟨v, rfl, hv⟩ : ∃ v, e = .returned v ∧ (v = .nilIface ∨ ∃ tu yu, v = .iface tu yu) := by
      have h4 := h3.2
      match Ld.takeN ⟨r.names, r.rungs, r.starts ++ [st]⟩ st line, h4 with
      | .inl (er, p), ⟨v, h, ⟨a, h5, _⟩, _⟩ => exact ⟨v, h, .inr ⟨_, _, h5⟩⟩
      | .inr r', ⟨h, _⟩ => exact ⟨_, h, .inl rfl⟩
    clear h3 HT
    rcases hv with rfl | ⟨tu, yu, rfl⟩
    all_goals
      go_wp2_with fail
      go_ret
      rw [HRS.out]
      exact H3.out.after (HKD.out n)
  | some (head, t), HIS, HCUT1, hcl =>
    refine HCUT1.out.mono ?_
    rintro e w2 ⟨⟨n, rfl⟩, rfl⟩
    have hcl' := hcl head t rfl
    have HT := hide (HTR.out head t _ (HRD.out n) (HQD.out n) (by omega))
    have HRS : Hid (res = Ld.takeR ⟨r.names, r.rungs, r.starts ++ [st]⟩ st head t) := HIS.out
    clear HIS HCUT1 HTN HTR
    go_wp2_with fail
    refine HT.out.mono ?_
    rintro e w3 h3
    have H3 := hide h3
    obtain ⟨v, rfl, hv⟩ : ∃ v, e = .returned v ∧ (v = .nilIface ∨ ∃ tu yu, v = .iface tu yu) := by
      have h4 := h3.2
      match Ld.takeR ⟨r.names, r.rungs, r.starts ++ [st]⟩ st head t, h4 with
      | .inl (er, p), ⟨v, h, ⟨a, h5, _⟩, _⟩ => exact ⟨v, h, .inr ⟨_, _, h5⟩⟩
      | .inr r', ⟨h, _⟩ => exact ⟨_, h, .inl rfl⟩
    clear h3 HT
    rcases hv with rfl | ⟨tu, yu, rfl⟩
    all_goals
      go_wp2_with fail
      go_ret
      rw [HRS.out]
      exact H3.out.after (HKD.out n)
end Go.Proofs.YtkpfahbodlfpiaaGreatDoor
