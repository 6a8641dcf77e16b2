/-
  The walks of the reader's sign, wrong and of endsWord.
-/
import Derived.Test.YtblfeahbpklgiaaGreatDoorRdKeep
namespace Go.Proofs.YtblfeahbpklgiaaGreatDoor
open Go.RowKit
set_option maxHeartbeats 1000000 in
theorem sign_any (b : Nat) (s : ByteArray) (i d : Nat) (w : World) (h : Rd b s i d w) (hi : i ≤ s.size) (hs : s.size ≤ 2000) :
    Calls Tryz.prog 27 #[.pointer (some ⟨b, 0, none⟩)] w fun e w' =>
      e = .returned (.int .u8 (Ex.sg s.data.toList (Ex.skip s.data.toList i))) ∧ Rd b s (Ex.skip s.data.toList i) d w' ∧ Keep b w w' := by
  have HL : Hid (s.data.toList.length = s.size) := by show _ = _; simp
  go_enter Tryz.func27, Tryz.ntmps27
  go_wp2
  go_loopg [] (s.size - i) (fun n wr => ∃ j : Nat, j ≤ s.size ∧ n = s.size - j ∧ Rd b s j d wr ∧ Keep b w wr ∧ Ex.skip s.data.toList j = Ex.skip s.data.toList i)
  case atStart => exact ⟨i, hi, rfl, h, Keep.refl _ _, rfl⟩
  case round =>
    obtain ⟨j, hj, hn, hr, hk, hsk⟩ := hrel
    have HN := hide hn
    have HR := hide hr
    have HK := hide hk
    have HS := hide hsk
    obtain ⟨c0, c1, c2, f1, f2⟩ := hr
    clear hn hk hsk
    by_cases hlt : j < s.size
    · have hlt' : (j : Int) < (s.size : Int) := by omega
      cases hb : ((s[j].toNat : Int) == 32) with
      | true =>
        have HX : Hid (Ex.skip s.data.toList (j + 1) = Ex.skip s.data.toList i) := by
          show _ = _
          rw [← Ex.skip_blank s.data.toList j (by rw [HL.out]; exact hlt) (blank_at s j hlt hb)]; exact HS.out
        go_wp2_with fail
        go_quiet (fail)
        go_wp2
        go_roundg (s.size - (j + 1))
        case measure => rw [HN.out]; omega
        case rel => exact ⟨j + 1, by omega, rfl, ((HR.out.drewN _).set1 (j + 1)), (HK.out.drewN _).setCell rfl _, HX.out⟩
      | false =>
        have HX : Hid (Ex.skip s.data.toList i = j) := by
          show _ = _
          rw [← HS.out]; exact Ex.skip_stop s.data.toList j (by rw [HL.out]; exact hlt) (not_blank_at s j hlt hb)
        have hne : ((j : Int) == (s.size : Int)) = false := beq_eq_false_iff_ne.2 (by omega)
        go_wp2_with fail
        go_quiet (fail)
        go_wp2
        go_quiet (fail)
        go_wp2
        go_quiet (fail)
        go_wp2
        go_ret
        refine ⟨ret_u8 ?_, ?_, ?_⟩
        · rw [HX.out, sg_at s j hlt]
        · rw [HX.out]; exact ((HR.out.drewN _).drewN _).drewN _
        · exact ((HK.out.drewN _).drewN _).drewN _
    · have hlt' : decide ((j : Int) < (s.size : Int)) = false := decide_eq_false (by omega)
      have HX : Hid (Ex.skip s.data.toList i = j) := by
        show _ = _
        rw [← HS.out]; exact Ex.skip_end s.data.toList j (by rw [HL.out]; omega)
      have hne : ((j : Int) == (s.size : Int)) = true := beq_iff_eq.2 (by omega)
      go_wp2_with fail
      go_quiet (fail)
      go_wp2
      go_quiet (fail)
      go_wp2
      go_ret
      refine ⟨ret_u8 ?_, ?_, ?_⟩
      · rw [HX.out, sg_end s j hlt]; rfl
      · rw [HX.out]; exact (HR.out.drewN _).drewN _
      · exact (HK.out.drewN _).drewN _
/-- the reader's error: an At at where it is -/
theorem wrong_any (b : Nat) (s : ByteArray) (i d : Nat) (n : Int) (w : World) (h : Rd b s i d w) :
    Calls Tryz.prog 28 #[.pointer (some ⟨b, 0, none⟩), .int .i64 n] w fun e w' =>
      e = .returned (.iface 87 (.pointer (some ⟨w.heap.size, 0, none⟩))) ∧ w' = w.alloc (.cells #[.int .i64 n, .int .i64 (i : Int)] 88) := by
  obtain ⟨c0, c1, c2, f1, f2⟩ := h
  go_enter Tryz.func28, Tryz.ntmps28
  go_wp2
  go_ret
  exact ⟨rfl, rfl⟩
theorem ends_table : ∀ c : Fin 256, decide (0 ≤ Lib.indexByte [32, 38, 124, 33, 94, 126, 40, 41, 61] (c.val : Int).toNat.toUInt8) = Ex.ends c.val := by decide +kernel
theorem ends_index (c : Nat) (hc : c < 256) : decide (0 ≤ Lib.indexByte [32, 38, 124, 33, 94, 126, 40, 41, 61] (c : Int).toNat.toUInt8) = Ex.ends c := ends_table ⟨c, hc⟩
theorem endsWord_any (c : Nat) (hc : c < 256) (w : World) :
    Calls Tryz.prog 91 #[.int .u8 (c : Int)] w fun e w' => e = .returned (.bool (Ex.ends c)) ∧ w' = w := by
  have hx : ∀ w : World, (callFunc 103 #[.string ⟨#[32, 38, 124, 33, 94, 126, 40, 41, 61]⟩, .int .u8 (c : Int)]).run Tryz.prog w = .ok (.value (.int .i64 (Lib.indexByte [32, 38, 124, 33, 94, 126, 40, 41, 61] (c : Int).toNat.toUInt8))) w := by
    intro w
    rw [run_callFunc_extern Tryz.func103 (by kernel_rfl) (by kernel_rfl) (by kernel_rfl) (e := Extern.BytealgIndexByte.indexByte) (by kernel_rfl), Lib.run_indexByteString]
    rfl
  have HE := hide (ends_index c hc)
  clear hc
  generalize Lib.indexByte [32, 38, 124, 33, 94, 126, 40, 41, 61] (c : Int).toNat.toUInt8 = n at *
  go_enter Tryz.func91, Tryz.ntmps91
  go_wp2
  go_ret
  exact ⟨ret_bool HE.out, rfl⟩
end Go.Proofs.YtblfeahbpklgiaaGreatDoor
