/-
  The walk of the document's piece.
-/
import Derived.Test.YtmjlpcedeonhaaaDoorRpWhole
namespace Go.Proofs.YtmjlpcedeonhaaaDoor
open Go.RowKit
theorem wordP_ne (l : List UInt8) (i : Nat) (n : List UInt8) (m : Nat) (h : wordP l i = .inr (n, m)) : n ≠ [] := by
  unfold wordP wordAt at h
  split at h
  · cases h
  · split at h
    · rename_i h2
      simp only [Sum.inr.injEq, Prod.mk.injEq] at h
      rw [h.1] at h2
      intro e
      rw [e] at h2
      revert h2
      decide
    · cases h
theorem IsRx.leaf (ok : Nat → Prop) (w : World) (k : Nat) (nm : List UInt8) (hok : ok w.heap.size) (hf : RWf k nm 0) : IsRx ok (w.alloc (.cells #[.string ⟨(kindS k).toArray⟩, .string ⟨nm.toArray⟩, .slice none 0 0] 61)) ⟨k, nm, []⟩ w.heap.size := by
  rw [IsRx.def]
  exact ⟨hok, hf, by simp, by simp [World.cell?_alloc_at], by simp [World.cell?_alloc_at], _, by simp [World.cell?_alloc_at], .inl ⟨rfl, rfl⟩⟩
theorem setCell_size (w : World) (a : Addr) (v : Value) : (w.setCell a v).heap.size = w.heap.size := by simp [World.setCell]
theorem IsRx.leaf_at (ok : Nat → Prop) (w : World) (k : Nat) (nm : List UInt8) (g : Nat) (hg : w.heap.size = g) (hok : ok w.heap.size) (hf : RWf k nm 0) : IsRx ok (w.alloc (.cells #[.string ⟨(kindS k).toArray⟩, .string ⟨nm.toArray⟩, .slice none 0 0] 61)) ⟨k, nm, []⟩ g := by
  rw [← hg]; exact IsRx.leaf ok w k nm hok hf
theorem IsRx.not (B : Nat) (w : World) (x : Ex) (g : Nat) (hB : B ≤ w.heap.size) (hx : IsRx (fun g => B ≤ g) w x g) :
    IsRx (fun g => B ≤ g) ((w.alloc (.cells #[.pointer (some ⟨g, 0, none⟩)] 22)).alloc (.cells #[.string ⟨#[33]⟩, .string ⟨#[]⟩, .slice (some ⟨w.heap.size, 0, none⟩) 1 1] 61)) ⟨5, [], [x]⟩ (w.heap.size + 1) := by
  have hb1 : Below w.heap.size w (w.alloc (.cells #[.pointer (some ⟨g, 0, none⟩)] 22)) := (Below.refl _ _).alloc (Nat.le_refl _) _
  have hb2 : Below w.heap.size w ((w.alloc (.cells #[.pointer (some ⟨g, 0, none⟩)] 22)).alloc (.cells #[.string ⟨#[33]⟩, .string ⟨#[]⟩, .slice (some ⟨w.heap.size, 0, none⟩) 1 1] 61)) := hb1.alloc (by simp) _
  rw [IsRx.def]
  refine ⟨by omega, .inr (.inr (.inl ⟨rfl, rfl, rfl⟩)), by simp, ?_, ?_, _, ?_, .inr ⟨by simp, w.heap.size, 1, rfl, by simp, hB, ?_⟩⟩
  · simp [kindS]
  · simp
  · simp
  · intro i P hP
    match i, hP with
    | 0, hP =>
      simp at hP
      subst hP
      exact ⟨g, by simp, IsRx.stay (Stay.below hb2) (fun _ h => h) x g hx⟩
    | i + 1, hP => simp at hP
/-- what comes of a word: an expression of a name -/
theorem ReadR.word {b : Nat} {s : ByteArray} {D : Nat} {w w1 : World} {kind i : Nat} {t : ByteArray} (hk2 : 2 ≤ kind) (hk4 : kind ≤ 4) (h : Word b s w (wordP s.data.toList i) (.returned (.string t)) w1) :
    ReadR b s D w (Ex.nameP s.data.toList kind i) (.returned (.pointer (some ⟨w1.heap.size, 0, none⟩))) (w1.alloc (.cells #[.string ⟨(kindS kind).toArray⟩, .string t, .slice none 0 0] 61)) := by
  rw [nameP_word]
  obtain ⟨hk, h⟩ := h
  cases hw : wordP s.data.toList i with
  | inl p =>
    obtain ⟨err, pl⟩ := p
    have herr : err ≠ 0 := by
      unfold wordP wordAt at hw
      split at hw
      · simp only [Sum.inl.injEq, Prod.mk.injEq] at hw; omega
      · split at hw
        · cases hw
        · simp only [Sum.inl.injEq, Prod.mk.injEq] at hw; omega
    rw [hw] at h
    obtain ⟨t', _, hp, hrp⟩ := h
    exact ⟨hk.alloc _, _, pl, rfl, by omega, herr, hrp.alloc _⟩
  | inr p =>
    obtain ⟨n, m⟩ := p
    rw [hw] at h
    obtain ⟨he, hrp⟩ := h
    simp only [Ending.returned.injEq, Value.string.injEq] at he
    subst he
    exact ⟨hk.alloc _, _, rfl, IsRx.leaf _ w1 kind n hk.size (.inr (.inl ⟨hk2, hk4, wordP_ne _ _ _ _ hw, rfl⟩)), hrp.alloc _⟩
/-- what comes of not -/
theorem ReadR.not {b : Nat} {s : ByteArray} {D : Nat} {w w1 : World} {r : Ex.Res Ex} {q : Option Addr} (h : ReadR b s D w r (.returned (.pointer q)) w1) :
    ReadR b s (D + 1) w (Ex.notP r) (.returned (.pointer (some ⟨w1.heap.size + 1, 0, none⟩))) ((w1.alloc (.cells #[.pointer q] 22)).alloc (.cells #[.string ⟨#[33]⟩, .string ⟨#[]⟩, .slice (some ⟨w1.heap.size, 0, none⟩) 1 1] 61)) := by
  obtain ⟨hk, h⟩ := h
  match r, h with
  | .inl (err, p), ⟨q', i, _, hi, herr, hrp⟩ => exact ⟨(hk.alloc _).alloc _, _, i, rfl, by omega, herr, (hrp.alloc _).alloc _⟩
  | .inr (x, m), ⟨g, he, hx, hrp⟩ =>
    simp only [Ending.returned.injEq, Value.pointer.injEq] at he
    subst he
    exact ⟨(hk.alloc _).alloc _, _, rfl, IsRx.not _ w1 x g hk.size hx, (hrp.alloc _).alloc _⟩
theorem Word.str {b : Nat} {s : ByteArray} {w : World} {r : (Nat × Nat) ⊕ (List UInt8 × Nat)} {e : Ending} {w' : World} (h : Word b s w r e w') : ∃ t, e = .returned (.string t) := by
  obtain ⟨_, h⟩ := h
  match r, h with
  | .inl (_, _), ⟨t, he, _⟩ => exact ⟨t, he⟩
  | .inr (_, _), ⟨he, _⟩ => exact ⟨_, he⟩
theorem Word.from {b : Nat} {s : ByteArray} {w w1 : World} {r : (Nat × Nat) ⊕ (List UInt8 × Nat)} {e : Ending} {w' : World} (hk : Keep b w w1) (h : Word b s w1 r e w') : Word b s w r e w' := ⟨hk.trans h.1, h.2⟩
set_option maxHeartbeats 4000000 in
set_option maxRecDepth 100000 in
theorem rpiece_any (b : Nat) (s : ByteArray) (hs : s.size ≤ 2000) (w0 : World) : ∀ (D d : Nat), d + D = 20 → ReadsR b s D 33 #[.pointer (some ⟨b, 0, none⟩), .int .i64 (d : Int)] (Ex.pieceP s.data.toList D) w0 := by
  intro D
  induction D with
  | zero =>
    intro d hd i w hk0 h hi
    have hd' : d = 20 := by omega
    subst hd'
    have HF := hide (rfail_any b s i (-1) 4 w h hi hs)
    have HL : Hid (s.data.toList.length = s.size) := by show _ = _; simp
    have hle := Ex.skip_le s.data.toList i (by rw [HL.out]; exact hi)
    rw [HL.out] at hle
    have HP : Hid (Ex.pieceP s.data.toList 0 i = .inl (4, Ex.skip s.data.toList i)) := rfl
    generalize Ex.pieceP s.data.toList 0 i = r at *
    generalize Ex.skip s.data.toList i = q at *
    obtain ⟨c0, c1, c2, c3, f1, f2, f3⟩ := h
    go_enter Tryd.func33, Tryd.ntmps33
    go_wp2_with fail
    refine HF.out.mono ?_
    rintro e w1 ⟨rfl, hr1, hk1⟩
    have HK1 := hide hk1
    have HR1 := hide hr1
    clear hr1 hk1
    go_wp2_with fail
    go_ret
    rw [HP.out]
    exact ⟨HK1.out, _, q, rfl, by omega, by decide, HR1.out⟩
  | succ D ih =>
    intro d hd i w hk0 h hi
    have hP := ih (d + 1) (by omega)
    have hA := Ex.pieceP_adv s.data.toList D
    have HNOT := hide (fun (i : Nat) (w : World) (hk : Keep b w0 w) (hr : Rp b s i 0 (-1) w) (hi : i ≤ s.size) => hP i w hk hr hi)
    have HPAR := hide (fun (i : Nat) (w : World) (hk : Keep b w0 w) (hr : Rp b s i 0 (-1) w) (hi : i ≤ s.size) => rwhole_any b s D ((d + 1 : Nat) : Int) _ hA w0 hP hs i w hk hr hi)
    have HWA := hide (Ex.wholeP_adv s.data.toList _ hA)
    have HL : Hid (s.data.toList.length = s.size) := by show _ = _; simp
    have HNX := hide (rnext_any b s i 0 (-1) w h hi hs)
    have hge := Ex.skip_ge s.data.toList i
    have hle := Ex.skip_le s.data.toList i (by rw [HL.out]; exact hi)
    rw [HL.out] at hle
    have HSK : Hid (Ex.skip s.data.toList (Ex.skip s.data.toList i) = Ex.skip s.data.toList i) := skip_skip _ _ (by rw [HL.out]; exact hi)
    have HLT : Hid (Ex.sg s.data.toList (Ex.skip s.data.toList i) ≠ 32 → Ex.skip s.data.toList i < s.size) := fun hc => by have := Ex.sg_lt s.data.toList _ hc; rw [HL.out] at this; exact this
    have HP : Hid (Ex.pieceP s.data.toList (D + 1) i = pieceAt s.data.toList D (Ex.skip s.data.toList i) (Ex.sg s.data.toList (Ex.skip s.data.toList i))) := rfl
    have HIFF := hide (fun c h0 h32 => rsg_iff s.data.toList (Ex.skip s.data.toList i) c h0 h32)
    have HK0 := hide hk0
    have HBW : Hid (b < w.heap.size) := h.lt
    obtain ⟨c0, c1, c2, c3, f1, f2, f3⟩ := h
    clear ih hP hA hk0
    generalize Ex.pieceP s.data.toList (D + 1) i = r at *
    generalize Ex.skip s.data.toList i = q at *
    generalize Ex.sg s.data.toList q = cs at *
    generalize rsg s.data.toList q = c at *
    have hd19 : ¬ (20 : Int) ≤ (d : Int) := by omega
    go_enter Tryd.func33, Tryd.ntmps33
    go_wp2_with fail
    refine HNX.out.mono ?_
    rintro e w1 ⟨rfl, hr1, hk1⟩
    have HK1 := hide hk1
    have HR1 := hide hr1
    clear c0 c1 c2 c3 f1 f2 f3 HNX hk1
    obtain ⟨c0, c1, c2, c3, f1, f2, f3⟩ := hr1
    have HKS : Hid (Keep b w (w1.setCell ⟨b, 1, none⟩ (.int .i64 ((q + 1 : Nat) : Int)))) := HK1.out.setCell rfl _
    by_cases q1 : c = 33
    · have hcs := (HIFF.out 33 (by decide) (by decide)).1 q1
      have hq := HLT.out (by omega)
      have HF : Hid (r = Ex.notP (Ex.pieceP s.data.toList D (q + 1))) := by show _ = _; rw [HP.out, pieceAt, if_pos hcs]
      have e1 : ((c : Int) == 33) = true := beq_iff_eq.2 (by omega)
      have HCALL := hide (HNOT.out (q + 1) _ (HK0.out.trans HKS.out) (HR1.out.set1 (q + 1)) (by omega))
      clear q1 hcs HP HIFF HNOT HPAR
      go_wp2_with fail
      refine HCALL.out.mono ?_
      intro e w2 hq2
      obtain ⟨q2, he⟩ := hq2.ptr
      subst he
      have HQ2 := hide hq2
      clear hq2 HCALL c0 c1 c2 c3 f1 f2 f3
      go_wp2_with fail
      go_ret
      rw [HF.out]
      exact ReadR.not (ReadR.from HKS.out HQ2.out)
    have e1 : ((c : Int) == 33) = false := beq_eq_false_iff_ne.2 (by omega)
    have n1 : cs ≠ 33 := fun e => q1 ((HIFF.out 33 (by decide) (by decide)).2 e)
    by_cases q2 : c = 40
    · have hcs := (HIFF.out 40 (by decide) (by decide)).1 q2
      have hq := HLT.out (by omega)
      have HF : Hid (r = Ex.parP s.data.toList (Ex.wholeP s.data.toList (Ex.pieceP s.data.toList D) (q + 1))) := by show _ = _; rw [HP.out, pieceAt, if_neg n1, if_pos hcs]
      have e2 : ((c : Int) == 40) = true := beq_iff_eq.2 (by omega)
      have HCALL := hide (HPAR.out (q + 1) _ (HK0.out.trans HKS.out) (HR1.out.set1 (q + 1)) (by omega))
      have HADV := hide (fun x m (he : Ex.wholeP s.data.toList (Ex.pieceP s.data.toList D) (q + 1) = .inr (x, m)) => HWA.out (q + 1) x m (by rw [HL.out]; omega) he)
      rw [HL.out] at HADV
      generalize Ex.wholeP s.data.toList (Ex.pieceP s.data.toList D) (q + 1) = rw0 at *
      clear q1 q2 n1 hcs HP HIFF HNOT HPAR HWA
      go_wp2_with fail
      refine HCALL.out.mono ?_
      intro e w2 hq2
      obtain ⟨q2, he⟩ := hq2.ptr
      subst he
      have HQ2 := hide (ReadR.from HKS.out hq2)
      clear hq2 HCALL c0 c1 c2 c3 f1 f2 f3
      match rw0, HQ2, HF, HADV with
      | .inl (err, pl), HQ2, HF, _ =>
        obtain ⟨hk2, q3, i3, he3, hi3, herr, hrp3⟩ := HQ2.out
        have HK2 := hide hk2
        have HR2 := hide hrp3
        obtain ⟨c0, c1, c2, c3, f1, f2, f3⟩ := hrp3
        have e3 : ((err : Int) == 0) = false := beq_eq_false_iff_ne.2 (by omega)
        clear hk2 he3 HQ2
        go_wp2_with fail
        go_ret
        rw [HF.out]
        exact ⟨HK2.out.setCell rfl _, _, i3 + 1, rfl, by omega, herr, HR2.out.set1 (i3 + 1)⟩
      | .inr (x, m), HQ2, HF, HADV =>
        obtain ⟨hk2, g3, he3, hx3, hrp3⟩ := HQ2.out
        have hm := HADV.out x m rfl
        simp only [Ending.returned.injEq, Value.pointer.injEq] at he3
        subst he3
        have HK2 := hide hk2
        have HR2 := hide hrp3
        have HX3 := hide hx3
        have HNX := hide (rnext_any b s m 0 (-1) w2 hrp3 hm.2 hs)
        have hge3 := Ex.skip_ge s.data.toList m
        have hle3 := Ex.skip_le s.data.toList m (by rw [HL.out]; exact hm.2)
        rw [HL.out] at hle3
        have HSK3 : Hid (Ex.skip s.data.toList (Ex.skip s.data.toList m) = Ex.skip s.data.toList m) := skip_skip _ _ (by rw [HL.out]; exact hm.2)
        have HI3 := hide (rsg_iff s.data.toList (Ex.skip s.data.toList m) 41 (by decide) (by decide))
        have HF3 : Hid (r = if Ex.sg s.data.toList (Ex.skip s.data.toList m) = 41 then .inr (x, Ex.skip s.data.toList m + 1) else .inl (3, Ex.skip s.data.toList m)) := HF.out
        obtain ⟨c0, c1, c2, c3, f1, f2, f3⟩ := hrp3
        clear hk2 HQ2 hx3 HF HADV
        have hs3 : Stay (fun g => w.heap.size ≤ g) w2 w2 := fun g i u _ hc => hc
        clear hs3
        generalize Ex.skip s.data.toList m = q4 at *
        generalize Ex.sg s.data.toList q4 = cs4 at *
        generalize rsg s.data.toList q4 = c4 at *
        go_wp2_with fail
        refine HNX.out.mono ?_
        rintro e w3 ⟨rfl, hr3, hk3⟩
        have HK3 := hide hk3
        have HR3 := hide hr3
        have HX4 : Hid (IsRx (fun g => w.heap.size ≤ g) w3 x g3) := IsRx.stay (Stay.keep hk3 fun g hg e => by have := HBW.out; omega) (fun _ h => h) x g3 HX3.out
        clear c0 c1 c2 c3 f1 f2 f3 HNX hk3
        obtain ⟨c0, c1, c2, c3, f1, f2, f3⟩ := hr3
        by_cases q41 : c4 = 41
        · have HF4 : Hid (r = .inr (x, q4 + 1)) := by show _ = _; rw [HF3.out, if_pos (HI3.out.1 q41)]
          have e4 : ((c4 : Int) != 41) = false := by rw [q41]; rfl
          clear q41 HF3 HI3
          go_wp2_with fail
          go_ret
          rw [HF4.out]
          refine ⟨(HK2.out.trans HK3.out).setCell rfl _, _, rfl, IsRx.stay (Stay.keep ((Keep.refl b w3).setCell rfl _) fun g hg e => by have := HBW.out; omega) (fun _ h => h) x g3 HX4.out, HR3.out.set1 (q4 + 1)⟩
        · have HF4 : Hid (r = .inl (3, q4)) := by show _ = _; rw [HF3.out, if_neg (fun e => q41 (HI3.out.2 e))]
          have e4 : ((c4 : Int) != 41) = true := by simp; omega
          have HFL := hide (rfail_any b s q4 (-1) 3 w3 HR3.out hle3 hs)
          rw [HSK3.out] at HFL
          clear q41 HF3 HI3
          go_wp2_with fail
          refine HFL.out.mono ?_
          rintro e w4 ⟨rfl, hr4, hk4⟩
          have HK4 := hide hk4
          have HR4 := hide hr4
          clear hr4 hk4 HFL
          go_wp2_with fail
          go_ret
          rw [HF4.out]
          exact ⟨(HK2.out.trans HK3.out).trans HK4.out, _, q4, rfl, by omega, by decide, HR4.out⟩
    have e2 : ((c : Int) == 40) = false := beq_eq_false_iff_ne.2 (by omega)
    have n2 : cs ≠ 40 := fun e => q2 ((HIFF.out 40 (by decide) (by decide)).2 e)
    clear HNOT HPAR HWA
    by_cases q3 : c = 48
    · have hcs := (HIFF.out 48 (by decide) (by decide)).1 q3
      have hq := HLT.out (by omega)
      have HF : Hid (r = .inr (⟨0, [], []⟩, q + 1)) := by show _ = _; rw [HP.out, pieceAt, if_neg n1, if_neg n2, if_pos hcs]
      have e3 : ((c : Int) == 48) = true := beq_iff_eq.2 (by omega)
      have henc : Utf8.encode (c : Int) = ⟨#[48]⟩ := by rw [q3]; decide
      clear q1 q2 q3 n1 n2 hcs HP HIFF
      go_wp2_with fail
      go_ret
      rw [HF.out]
      exact ⟨HKS.out.alloc _, _, rfl, IsRx.leaf_at _ _ 0 [] _ (setCell_size w1 _ _) HKS.out.size (.inl ⟨by decide, rfl, rfl⟩), (HR1.out.set1 (q + 1)).alloc _⟩
    have e3 : ((c : Int) == 48) = false := beq_eq_false_iff_ne.2 (by omega)
    have n3 : cs ≠ 48 := fun e => q3 ((HIFF.out 48 (by decide) (by decide)).2 e)
    by_cases q4 : c = 49
    · have hcs := (HIFF.out 49 (by decide) (by decide)).1 q4
      have hq := HLT.out (by omega)
      have HF : Hid (r = .inr (⟨1, [], []⟩, q + 1)) := by show _ = _; rw [HP.out, pieceAt, if_neg n1, if_neg n2, if_neg n3, if_pos hcs]
      have e4 : ((c : Int) == 49) = true := beq_iff_eq.2 (by omega)
      have henc : Utf8.encode (c : Int) = ⟨#[49]⟩ := by rw [q4]; decide
      clear q1 q2 q3 q4 n1 n2 n3 hcs HP HIFF
      go_wp2_with fail
      go_ret
      rw [HF.out]
      exact ⟨HKS.out.alloc _, _, rfl, IsRx.leaf_at _ _ 1 [] _ (setCell_size w1 _ _) HKS.out.size (.inl ⟨by decide, rfl, rfl⟩), (HR1.out.set1 (q + 1)).alloc _⟩
    have e4 : ((c : Int) == 49) = false := beq_eq_false_iff_ne.2 (by omega)
    have n4 : cs ≠ 49 := fun e => q4 ((HIFF.out 49 (by decide) (by decide)).2 e)
    by_cases q5 : c = 94
    · have hcs := (HIFF.out 94 (by decide) (by decide)).1 q5
      have hq := HLT.out (by omega)
      have HF : Hid (r = Ex.nameP s.data.toList 3 (q + 1)) := by show _ = _; rw [HP.out, pieceAt, if_neg n1, if_neg n2, if_neg n3, if_neg n4, if_pos hcs]
      have e5 : ((c : Int) == 94) = true := beq_iff_eq.2 (by omega)
      have henc : Utf8.encode (c : Int) = ⟨#[94]⟩ := by rw [q5]; decide
      have HCALL := hide (word_any b s (q + 1) _ (HR1.out.set1 (q + 1)) (by omega) hs)
      clear q1 q2 q3 q4 q5 n1 n2 n3 n4 hcs HP HIFF
      go_wp2_with fail
      refine HCALL.out.mono ?_
      intro e w2 hq2
      obtain ⟨tt, he⟩ := hq2.str
      subst he
      have HQ2 := hide (Word.from HKS.out hq2)
      clear hq2 HCALL c0 c1 c2 c3 f1 f2 f3
      go_wp2_with fail
      go_ret
      rw [HF.out]
      exact ReadR.word (by decide) (by decide) HQ2.out
    have e5 : ((c : Int) == 94) = false := beq_eq_false_iff_ne.2 (by omega)
    have n5 : cs ≠ 94 := fun e => q5 ((HIFF.out 94 (by decide) (by decide)).2 e)
    by_cases q6 : c = 126
    · have hcs := (HIFF.out 126 (by decide) (by decide)).1 q6
      have hq := HLT.out (by omega)
      have HF : Hid (r = Ex.nameP s.data.toList 4 (q + 1)) := by show _ = _; rw [HP.out, pieceAt, if_neg n1, if_neg n2, if_neg n3, if_neg n4, if_neg n5, if_pos hcs]
      have e6 : ((c : Int) == 126) = true := beq_iff_eq.2 (by omega)
      have henc : Utf8.encode (c : Int) = ⟨#[126]⟩ := by rw [q6]; decide
      have HCALL := hide (word_any b s (q + 1) _ (HR1.out.set1 (q + 1)) (by omega) hs)
      clear q1 q2 q3 q4 q5 q6 n1 n2 n3 n4 n5 hcs HP HIFF
      go_wp2_with fail
      refine HCALL.out.mono ?_
      intro e w2 hq2
      obtain ⟨tt, he⟩ := hq2.str
      subst he
      have HQ2 := hide (Word.from HKS.out hq2)
      clear hq2 HCALL c0 c1 c2 c3 f1 f2 f3
      go_wp2_with fail
      go_ret
      rw [HF.out]
      exact ReadR.word (by decide) (by decide) HQ2.out
    have e6 : ((c : Int) == 126) = false := beq_eq_false_iff_ne.2 (by omega)
    have n6 : cs ≠ 126 := fun e => q6 ((HIFF.out 126 (by decide) (by decide)).2 e)
    have HF : Hid (r = Ex.nameP s.data.toList 2 q) := by show _ = _; rw [HP.out, pieceAt, if_neg n1, if_neg n2, if_neg n3, if_neg n4, if_neg n5, if_neg n6]
    have HCALL := hide (word_any b s q w1 HR1.out hle hs)
    clear q1 q2 q3 q4 q5 q6 n1 n2 n3 n4 n5 n6 HP HIFF
    go_wp2_with fail
    refine HCALL.out.mono ?_
    intro e w2 hq2
    obtain ⟨tt, he⟩ := hq2.str
    subst he
    have HQ2 := hide (Word.from HK1.out hq2)
    clear hq2 HCALL c0 c1 c2 c3 f1 f2 f3
    go_wp2_with fail
    go_ret
    rw [HF.out]
    exact ReadR.word (by decide) (by decide) HQ2.out
end Go.Proofs.YtmjlpcedeonhaaaDoor
