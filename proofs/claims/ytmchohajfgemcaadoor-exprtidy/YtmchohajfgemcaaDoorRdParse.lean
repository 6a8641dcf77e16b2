/-
  The walks of the reader's piece, by how deep it may still go, and of Parse.
-/
import Derived.Test.YtmchohajfgemcaaDoorRdPiece
namespace Go.Proofs.YtmchohajfgemcaaDoor
open Go.RowKit
/-- an error at the reader's place -/
theorem Read.bad {b : Nat} {s : ByteArray} {d q : Nat} {w w2 : World} (err : Nat) (hk : Keep b w w2) (hr : Rd b s q d w2) :
    Read b s d w (.inl (err, q)) (.returned (.tuple #[.nilIface, .iface 77 (.pointer (some ⟨w2.heap.size, 0, none⟩))])) (w2.alloc (.cells #[.int .i64 (err : Int), .int .i64 (q : Int)] 78)) := by
  refine ⟨hk.alloc _, _, q, rfl, ⟨w2.heap.size, by have := hr.lt; omega, rfl, ?_, ?_⟩, hr.below ((Below.refl _ _).alloc (Nat.le_refl _) _)⟩
  · simp [World.cell?_alloc_at]
  · simp [World.cell?_alloc_at]
/-- what is read from a world that has kept all is read from the first -/
theorem Read.from {b : Nat} {s : ByteArray} {d : Nat} {w w1 w' : World} {r : Ex.Res Ex} {e : Ending} (hk : Keep b w w1) (h : Read b s d w1 r e w') : Read b s d w r e w' := by
  obtain ⟨h1, h2⟩ := h
  refine ⟨hk.trans h1, ?_⟩
  match r, h2 with
  | .inl (err, p), h2 => exact h2
  | .inr (x, m), ⟨v, he, hx, hrd⟩ => exact ⟨v, he, IsEx.stay (fun g i u _ hc => hc) (fun g hg => Nat.le_trans hk.size hg) x v hx, hrd⟩
theorem skip_skip (l : List UInt8) (i : Nat) (h : i ≤ l.length) : Ex.skip l (Ex.skip l i) = Ex.skip l i := by
  by_cases h1 : Ex.skip l i < l.length
  · have h2 : Ex.sg l (Ex.skip l i) ≠ 32 := fun e => by have := (Ex.sg_skip l i h).1 e; omega
    refine Ex.skip_stop l _ h1 (fun e => h2 ?_)
    simp only [Ex.sg, if_pos h1, e]; rfl
  · exact Ex.skip_end l _ (by omega)
theorem nameP_skip (l : List UInt8) (k i : Nat) (h : i ≤ l.length) : Ex.nameP l k (Ex.skip l i) = Ex.nameP l k i := by
  unfold Ex.nameP
  rw [skip_skip l i h]
/-- a piece, by its first sign -/
def pieceAt (l : List UInt8) (D j c : Nat) : Ex.Res Ex :=
  if c = 33 then Ex.notP (Ex.pieceP l D (j + 1))
  else if c = 40 then Ex.parP l (Ex.wholeP l (Ex.pieceP l D) (j + 1))
  else if c = 48 then .inr (⟨0, [], []⟩, j + 1)
  else if c = 49 then .inr (⟨1, [], []⟩, j + 1)
  else if c = 94 then Ex.nameP l 3 (j + 1)
  else if c = 126 then Ex.nameP l 4 (j + 1)
  else Ex.nameP l 2 j
set_option maxHeartbeats 2000000 in
theorem piece_any (s : ByteArray) (hs : s.size ≤ 2000) : ∀ (D d : Nat), d + D = 20 → Reads 47 s d (Ex.pieceP s.data.toList D) := by
  intro D
  induction D with
  | zero =>
    intro d hd b i w h hi
    have HS := hide (sign_any b s i d w h hi hs)
    have hd' : d = 20 := by omega
    subst hd'
    have HP : Hid (Ex.pieceP s.data.toList 0 i = .inl (4, Ex.skip s.data.toList i)) := rfl
    generalize Ex.pieceP s.data.toList 0 i = r at *
    generalize Ex.skip s.data.toList i = q at *
    generalize Ex.sg s.data.toList q = c at *
    clear h hd
    go_enter Tryd.func47, Tryd.ntmps47
    go_wp2_with fail
    refine HS.out.mono ?_
    rintro e w2 ⟨rfl, hr2, hk2⟩
    have HK2 := hide hk2
    have HR2 := hide hr2
    obtain ⟨c0, c1, c2, f1, f2⟩ := hr2
    clear hk2 HS
    go_wp2_with fail
    refine (wrong_any b s q 20 4 w2 HR2.out).mono ?_
    rintro e w3 ⟨rfl, rfl⟩
    go_wp2_with fail
    go_ret2
    rw [HP.out]
    exact Read.bad 4 HK2.out HR2.out
  | succ D ih =>
    intro d hd b i w h hi
    have hP := ih (d + 1) (by omega)
    have hA := Ex.pieceP_adv s.data.toList D
    have hPart := part_any s (d + 1) _ hA hP hs
    have hPA := Ex.partP_adv s.data.toList _ hA
    have hW := whole_any s (d + 1) _ hPA hPart hs
    have hWA := Ex.wholeP_adv s.data.toList _ hA
    have HL : Hid (s.data.toList.length = s.size) := by show _ = _; simp
    have HS := hide (sign_any b s i d w h hi hs)
    have hge := Ex.skip_ge s.data.toList i
    have hle := Ex.skip_le s.data.toList i (by rw [HL.out]; exact hi)
    rw [HL.out] at hle
    have HLT : Hid (Ex.sg s.data.toList (Ex.skip s.data.toList i) ≠ 32 → Ex.skip s.data.toList i < s.size) := fun hc => by have := Ex.sg_lt s.data.toList _ hc; rw [HL.out] at this; exact this
    have HP : Hid (Ex.pieceP s.data.toList (D + 1) i = pieceAt s.data.toList D (Ex.skip s.data.toList i) (Ex.sg s.data.toList (Ex.skip s.data.toList i))) := rfl
    have HNOT := hide (fun (w : World) (q : Nat) (hr : Rd b s q d w) (hq : q < s.size) => not_any b s q d _ hP w hr hq hs (by omega))
    have HPAR := hide (fun (w : World) (q : Nat) (hr : Rd b s q d w) (hq : q < s.size) => par_any b s q d _ hW hWA w hr hq hs (by omega))
    clear ih hP hA hPart hPA hW hWA h
    generalize Ex.pieceP s.data.toList (D + 1) i = r at *
    generalize Ex.skip s.data.toList i = q at *
    generalize Ex.sg s.data.toList q = c at *
    have hd19 : ¬ (19 : Int) < (d : Int) := by omega
    go_enter Tryd.func47, Tryd.ntmps47
    go_wp2_with fail
    refine HS.out.mono ?_
    rintro e w2 ⟨rfl, hr2, hk2⟩
    have HK2 := hide hk2
    have HR2 := hide hr2
    obtain ⟨c0, c1, c2, f1, f2⟩ := hr2
    clear hk2 HS
    by_cases q1 : c = 33
    · have hq := HLT.out (by omega)
      have HF : Hid (r = Ex.notP (Ex.pieceP s.data.toList D (q + 1))) := by show _ = _; rw [HP.out, pieceAt, if_pos q1]
      have e1 : ((c : Int) == 33) = true := beq_iff_eq.2 (by omega)
      clear q1 HP
      go_wp2_with fail
      refine (HNOT.out w2 q HR2.out hq).mono ?_
      intro e w3 hq3
      have HQ := hide (Read.from HK2.out hq3)
      obtain ⟨v0, v1, i', he, hrd⟩ := hq3.cells
      rw [he] at HQ
      rw [he]
      clear hq3 he hrd
      go_wp2_with fail
      go_ret2
      rw [HF.out]
      exact HQ.out
    have e1 : ((c : Int) == 33) = false := beq_eq_false_iff_ne.2 (by omega)
    by_cases q2 : c = 40
    · have hq := HLT.out (by omega)
      have HF : Hid (r = Ex.parP s.data.toList (Ex.wholeP s.data.toList (Ex.pieceP s.data.toList D) (q + 1))) := by show _ = _; rw [HP.out, pieceAt, if_neg q1, if_pos q2]
      have e2 : ((c : Int) == 40) = true := beq_iff_eq.2 (by omega)
      clear q1 q2 HP
      go_wp2_with fail
      refine (HPAR.out w2 q HR2.out hq).mono ?_
      intro e w3 hq3
      have HQ := hide (Read.from HK2.out hq3)
      obtain ⟨v0, v1, i', he, hrd⟩ := hq3.cells
      rw [he] at HQ
      rw [he]
      clear hq3 he hrd
      go_wp2_with fail
      go_ret2
      rw [HF.out]
      exact HQ.out
    have e2 : ((c : Int) == 40) = false := beq_eq_false_iff_ne.2 (by omega)
    by_cases q3 : c = 48
    · have hq := HLT.out (by omega)
      have HF : Hid (r = .inr (⟨0, [], []⟩, q + 1)) := by show _ = _; rw [HP.out, pieceAt, if_neg q1, if_neg q2, if_pos q3]
      have e3 : ((c : Int) == 48) = true := beq_iff_eq.2 (by omega)
      have e4 : ((c : Int) == 49) = false := beq_eq_false_iff_ne.2 (by omega)
      clear q1 q2 q3 HP
      go_wp2_with fail
      go_ret2
      rw [HF.out]
      exact ⟨HK2.out.setCell rfl _, _, rfl, by simp [IsEx], HR2.out.set1 (q + 1)⟩
    have e3 : ((c : Int) == 48) = false := beq_eq_false_iff_ne.2 (by omega)
    by_cases q4 : c = 49
    · have hq := HLT.out (by omega)
      have HF : Hid (r = .inr (⟨1, [], []⟩, q + 1)) := by show _ = _; rw [HP.out, pieceAt, if_neg q1, if_neg q2, if_neg q3, if_pos q4]
      have e4 : ((c : Int) == 49) = true := beq_iff_eq.2 (by omega)
      clear q1 q2 q3 q4 HP
      go_wp2_with fail
      go_ret2
      rw [HF.out]
      exact ⟨HK2.out.setCell rfl _, _, rfl, by simp [IsEx], HR2.out.set1 (q + 1)⟩
    have e4 : ((c : Int) == 49) = false := beq_eq_false_iff_ne.2 (by omega)
    by_cases q5 : c = 94
    · have hq := HLT.out (by omega)
      have HF : Hid (r = Ex.nameP s.data.toList 3 (q + 1)) := by show _ = _; rw [HP.out, pieceAt, if_neg q1, if_neg q2, if_neg q3, if_neg q4, if_pos q5]
      have e5 : ((c : Int) == 94) = true := beq_iff_eq.2 (by omega)
      clear q1 q2 q3 q4 q5 HP
      go_wp2_with fail
      refine (named_any _ 3 makes3 b s (q + 1) d _ (HR2.out.set1 (q + 1)) (by omega) hs).mono ?_
      intro e w3 hq3
      have HQ := hide (Read.from (HK2.out.setCell rfl _) hq3)
      obtain ⟨v0, v1, i', he, hrd⟩ := hq3.cells
      rw [he] at HQ
      rw [he]
      clear hq3 he hrd
      go_wp2_with fail
      go_ret2
      rw [HF.out]
      exact HQ.out
    have e5 : ((c : Int) == 94) = false := beq_eq_false_iff_ne.2 (by omega)
    by_cases q6 : c = 126
    · have hq := HLT.out (by omega)
      have HF : Hid (r = Ex.nameP s.data.toList 4 (q + 1)) := by show _ = _; rw [HP.out, pieceAt, if_neg q1, if_neg q2, if_neg q3, if_neg q4, if_neg q5, if_pos q6]
      have e6 : ((c : Int) == 126) = true := beq_iff_eq.2 (by omega)
      clear q1 q2 q3 q4 q5 q6 HP
      go_wp2_with fail
      refine (named_any _ 4 makes4 b s (q + 1) d _ (HR2.out.set1 (q + 1)) (by omega) hs).mono ?_
      intro e w3 hq3
      have HQ := hide (Read.from (HK2.out.setCell rfl _) hq3)
      obtain ⟨v0, v1, i', he, hrd⟩ := hq3.cells
      rw [he] at HQ
      rw [he]
      clear hq3 he hrd
      go_wp2_with fail
      go_ret2
      rw [HF.out]
      exact HQ.out
    have e6 : ((c : Int) == 126) = false := beq_eq_false_iff_ne.2 (by omega)
    have HF : Hid (r = Ex.nameP s.data.toList 2 q) := by show _ = _; rw [HP.out, pieceAt, if_neg q1, if_neg q2, if_neg q3, if_neg q4, if_neg q5, if_neg q6]
    clear q1 q2 q3 q4 q5 q6 HP
    go_wp2_with fail
    refine (named_any _ 2 makes2 b s q d w2 HR2.out hle hs).mono ?_
    intro e w3 hq3
    have HQ := hide (Read.from HK2.out hq3)
    obtain ⟨v0, v1, i', he, hrd⟩ := hq3.cells
    rw [he] at HQ
    rw [he]
    clear hq3 he hrd
    go_wp2_with fail
    go_ret2
    rw [HF.out]
    exact HQ.out
end Go.Proofs.YtmchohajfgemcaaDoor
