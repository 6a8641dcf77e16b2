/-
  What the walks of the document's own reader (package signalcabinref) go by: its cells in memory, expressions as it lays them; its skip, next and fail.
-/
import Derived.Test.YtmjlpcedeonhaaaDoorRdSign
import Derived.Test.YtmjlpcedeonhaaaDoorExRep
namespace Go.Proofs.YtmjlpcedeonhaaaDoor
open Go.RowKit
/-- The document's reader lies in block b: its text, where it is, its fault. -/
structure Rp (b : Nat) (s : ByteArray) (i : Nat) (err pl : Int) (w : World) : Prop where
  c0 : w.cell? ⟨b, 0, none⟩ = some (.string s)
  c1 : w.cell? ⟨b, 1, none⟩ = some (.int .i64 (i : Int))
  c2 : w.cell? ⟨b, 2, none⟩ = some (.int .i64 err)
  c3 : w.cell? ⟨b, 3, none⟩ = some (.int .i64 pl)
  f1 : w.frozen? ⟨b, 1, none⟩ = false
  f2 : w.frozen? ⟨b, 2, none⟩ = false
  f3 : w.frozen? ⟨b, 3, none⟩ = false
namespace Rp
variable {b : Nat} {s : ByteArray} {i : Nat} {err pl : Int} {w w' : World}
theorem lt (h : Rp b s i err pl w) : b < w.heap.size := World.block_lt_of_cell? _ _ h.c0
theorem drew (h : Rp b s i err pl w) : Rp b s i err pl w.drew := ⟨h.c0, h.c1, h.c2, h.c3, h.f1, h.f2, h.f3⟩
theorem drewN (n : Nat) (h : Rp b s i err pl w) : Rp b s i err pl (w.drewN n) := ⟨h.c0, h.c1, h.c2, h.c3, h.f1, h.f2, h.f3⟩
theorem of_block (h : Rp b s i err pl w) (e : w'.heap[b]? = w.heap[b]?) : Rp b s i err pl w' :=
  ⟨(World.cell?_of_block (w := w) e).trans h.c0, (World.cell?_of_block (w := w) e).trans h.c1, (World.cell?_of_block (w := w) e).trans h.c2, (World.cell?_of_block (w := w) e).trans h.c3, (World.frozen?_of_block (w := w) e).trans h.f1, (World.frozen?_of_block (w := w) e).trans h.f2, (World.frozen?_of_block (w := w) e).trans h.f3⟩
theorem below (h : Rp b s i err pl w) (hb : Below w.heap.size w w') : Rp b s i err pl w' := h.of_block (hb.block b h.lt)
theorem alloc (h : Rp b s i err pl w) (o : Obj) : Rp b s i err pl (w.alloc o) := h.below ((Below.refl _ _).alloc (Nat.le_refl _) o)
theorem grown {row : Option Nat} (h : Rp b s i err pl w) (hg : w.grownBy w' row) (hb : some b ≠ row) : Rp b s i err pl w' := h.of_block (hg.block b h.lt hb)
theorem set1 (h : Rp b s i err pl w) (j : Nat) : Rp b s j err pl (w.setCell ⟨b, 1, none⟩ (.int .i64 (j : Int))) :=
  ⟨(World.cell?_setCell_other w _ _ _ (by simp)).trans h.c0, World.cell?_setCell_same w _ _ h.c1, (World.cell?_setCell_other w _ _ _ (by simp)).trans h.c2, (World.cell?_setCell_other w _ _ _ (by simp)).trans h.c3, by simp [h.f1], by simp [h.f2], by simp [h.f3]⟩
theorem set2 (h : Rp b s i err pl w) (e : Int) : Rp b s i e pl (w.setCell ⟨b, 2, none⟩ (.int .i64 e)) :=
  ⟨(World.cell?_setCell_other w _ _ _ (by simp)).trans h.c0, (World.cell?_setCell_other w _ _ _ (by simp)).trans h.c1, World.cell?_setCell_same w _ _ h.c2, (World.cell?_setCell_other w _ _ _ (by simp)).trans h.c3, by simp [h.f1], by simp [h.f2], by simp [h.f3]⟩
theorem set3 (h : Rp b s i err pl w) (e : Int) : Rp b s i err e (w.setCell ⟨b, 3, none⟩ (.int .i64 e)) :=
  ⟨(World.cell?_setCell_other w _ _ _ (by simp)).trans h.c0, (World.cell?_setCell_other w _ _ _ (by simp)).trans h.c1, (World.cell?_setCell_other w _ _ _ (by simp)).trans h.c2, World.cell?_setCell_same w _ _ h.c3, by simp [h.f1], by simp [h.f2], by simp [h.f3]⟩
end Rp
set_option maxHeartbeats 1000000 in
set_option maxRecDepth 100000 in
theorem rskip_any (b : Nat) (s : ByteArray) (i : Nat) (err pl : Int) (w : World) (h : Rp b s i err pl w) (hi : i ≤ s.size) (hs : s.size ≤ 2000) :
    Calls Tryd.prog 34 #[.pointer (some ⟨b, 0, none⟩)] w fun e w' =>
      e = .returned (.tuple #[]) ∧ Rp b s (Ex.skip s.data.toList i) err pl w' ∧ Keep b w w' := by
  have HL : Hid (s.data.toList.length = s.size) := by show _ = _; simp
  go_enter Tryd.func34, Tryd.ntmps34
  go_wp2
  go_loopg [] (s.size - i) (fun n wr => ∃ j : Nat, j ≤ s.size ∧ n = s.size - j ∧ Rp b s j err pl wr ∧ Keep b w wr ∧ Ex.skip s.data.toList j = Ex.skip s.data.toList i)
  case atStart => exact ⟨i, hi, rfl, h, Keep.refl _ _, rfl⟩
  case round =>
    obtain ⟨j, hj, hn, hr, hk, hsk⟩ := hrel
    have HN := hide hn
    have HR := hide hr
    have HK := hide hk
    have HS := hide hsk
    obtain ⟨c0, c1, c2, c3, f1, f2, f3⟩ := hr
    clear hn hk hsk h
    by_cases hlt : j < s.size
    · have hlt' : (j : Int) < (s.size : Int) := by omega
      cases hb : ((s[j].toNat : Int) == 32) with
      | true =>
        have HX : Hid (Ex.skip s.data.toList (j + 1) = Ex.skip s.data.toList i) := by
          show _ = _
          rw [← Ex.skip_blank s.data.toList j (by rw [HL.out]; exact hlt) (blank_at s j hlt hb)]; exact HS.out
        go_wp2_with fail
        go_quiet (fail)
        go_wp2
        go_roundg (s.size - (j + 1))
        case measure => rw [HN.out]; omega
        case rel => exact ⟨j + 1, by omega, rfl, ((HR.out.drewN _).set1 (j + 1)), (HK.out.drewN _).setCell rfl _, HX.out⟩
      | false =>
        have HX : Hid (Ex.skip s.data.toList i = j) := by
          show _ = _
          rw [← HS.out]; exact Ex.skip_stop s.data.toList j (by rw [HL.out]; exact hlt) (not_blank_at s j hlt hb)
        go_wp2_with fail
        go_quiet (fail)
        go_wp2
        go_end0
        refine ⟨rfl, ?_, ?_⟩
        · rw [HX.out]; exact HR.out.drewN _
        · exact HK.out.drewN _
    · have hlt' : decide ((j : Int) < (s.size : Int)) = false := decide_eq_false (by omega)
      have HX : Hid (Ex.skip s.data.toList i = j) := by
        show _ = _
        rw [← HS.out]; exact Ex.skip_end s.data.toList j (by rw [HL.out]; omega)
      go_wp2_with fail
      go_quiet (fail)
      go_wp2
      go_end0
      refine ⟨rfl, ?_, ?_⟩
      · rw [HX.out]; exact HR.out.drewN _
      · exact HK.out.drewN _
/-- the sign's first byte, 0 behind the end -/
def rsg (l : List UInt8) (i : Nat) : Nat := if i < l.length then (l.getD i 0).toNat else 0
theorem rsg_at (s : ByteArray) (i : Nat) (h : i < s.size) : rsg s.data.toList i = s[i].toNat := by
  unfold rsg
  have e : s.data.toList.length = s.size := by simp
  rw [if_pos (by rw [e]; exact h), getD_byte s i h]
theorem rsg_end (s : ByteArray) (i : Nat) (h : ¬ i < s.size) : rsg s.data.toList i = 0 := by
  unfold rsg
  have e : s.data.toList.length = s.size := by simp
  rw [if_neg (by rw [e]; exact h)]
/-- of signs that are neither 0 nor blanks both say the same -/
theorem rsg_iff (l : List UInt8) (i c : Nat) (h0 : c ≠ 0) (h32 : c ≠ 32) : rsg l i = c ↔ Ex.sg l i = c := by
  unfold rsg Ex.sg
  by_cases h : i < l.length
  · rw [if_pos h, if_pos h]
  · rw [if_neg h, if_neg h]; omega
set_option maxRecDepth 100000 in
theorem rnext_any (b : Nat) (s : ByteArray) (i : Nat) (err pl : Int) (w : World) (h : Rp b s i err pl w) (hi : i ≤ s.size) (hs : s.size ≤ 2000) :
    Calls Tryd.prog 17 #[.pointer (some ⟨b, 0, none⟩)] w fun e w' =>
      e = .returned (.int .u8 (rsg s.data.toList (Ex.skip s.data.toList i))) ∧ Rp b s (Ex.skip s.data.toList i) err pl w' ∧ Keep b w w' := by
  have HL : Hid (s.data.toList.length = s.size) := by show _ = _; simp
  have HS := hide (rskip_any b s i err pl w h hi hs)
  have hle := Ex.skip_le s.data.toList i (by rw [HL.out]; exact hi)
  rw [HL.out] at hle
  clear h
  generalize Ex.skip s.data.toList i = j at *
  go_enter Tryd.func17, Tryd.ntmps17
  go_wp2_with fail
  refine HS.out.mono ?_
  rintro e w1 ⟨rfl, hr, hk⟩
  have HR := hide hr
  have HK := hide hk
  obtain ⟨c0, c1, c2, c3, f1, f2, f3⟩ := hr
  clear hk HS
  by_cases hlt : j < s.size
  · have hlt' : (j : Int) < (s.size : Int) := by omega
    have HX := hide (rsg_at s j hlt)
    go_wp2_with fail
    go_quiet (fail)
    go_wp2
    go_quiet (fail)
    go_wp2
    go_ret
    exact ⟨ret_u8 (by rw [HX.out]), (HR.out.drewN _).drewN _, (HK.out.drewN _).drewN _⟩
  · have hlt' : decide ((j : Int) < (s.size : Int)) = false := decide_eq_false (by omega)
    have HX := hide (rsg_end s j hlt)
    go_wp2_with fail
    go_quiet (fail)
    go_wp2
    go_ret
    exact ⟨ret_u8 (by rw [HX.out]; rfl), HR.out.drewN _, HK.out.drewN _⟩
set_option maxRecDepth 100000 in
theorem rfail_any (b : Nat) (s : ByteArray) (i : Nat) (pl n : Int) (w : World) (h : Rp b s i 0 pl w) (hi : i ≤ s.size) (hs : s.size ≤ 2000) :
    Calls Tryd.prog 18 #[.pointer (some ⟨b, 0, none⟩), .int .i64 n] w fun e w' =>
      e = .returned (.pointer none) ∧ Rp b s (Ex.skip s.data.toList i) n (Ex.skip s.data.toList i : Nat) w' ∧ Keep b w w' := by
  have HS := hide (rskip_any b s i 0 pl w h hi hs)
  clear h
  generalize Ex.skip s.data.toList i = j at *
  go_enter Tryd.func18, Tryd.ntmps18
  go_wp2_with fail
  refine HS.out.mono ?_
  rintro e w1 ⟨rfl, hr, hk⟩
  have HR := hide hr
  have HK := hide hk
  obtain ⟨c0, c1, c2, c3, f1, f2, f3⟩ := hr
  clear hk HS
  go_wp2_with fail
  go_ret
  exact ⟨rfl, (HR.out.set2 n).set3 _, (HK.out.setCell rfl _).setCell rfl _⟩
end Go.Proofs.YtmjlpcedeonhaaaDoor
