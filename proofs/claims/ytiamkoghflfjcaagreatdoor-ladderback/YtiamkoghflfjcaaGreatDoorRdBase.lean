/-
  What the walks of package expr's reader go by: the reader's cells in memory; that all else is as it was. The walks of the reader's sign, wrong and of endsWord.
-/
import Derived.Test.YtiamkoghflfjcaaGreatDoorNmWalk
import Derived.Test.YtiamkoghflfjcaaGreatDoorExAdv
import Derived.Deep.QuietTactic
import Derived.BigQuiet
import Derived.Deep.LoopGhost
import Derived.Lib.Bytealg
namespace Go.Proofs.YtiamkoghflfjcaaGreatDoor
open Go.RowKit

/-- Memory is as it was, but for block b and what is new. -/
structure Keep (b : Nat) (w w' : World) : Prop where
  os : w'.os = w.os
  tape : w'.tape = w.tape
  output : w'.output = w.output
  size : w.heap.size ≤ w'.heap.size
  block : ∀ k, k < w.heap.size → k ≠ b → w'.heap[k]? = w.heap[k]?
namespace Keep
theorem refl (b : Nat) (w : World) : Keep b w w := ⟨rfl, rfl, rfl, Nat.le_refl _, fun _ _ _ => rfl⟩
theorem trans {b : Nat} {x y z : World} (h : Keep b x y) (k : Keep b y z) : Keep b x z :=
  ⟨k.os.trans h.os, k.tape.trans h.tape, k.output.trans h.output, Nat.le_trans h.size k.size, fun i hi hb => (k.block i (Nat.lt_of_lt_of_le hi h.size) hb).trans (h.block i hi hb)⟩
theorem drew {b : Nat} {a w : World} (h : Keep b a w) : Keep b a w.drew := ⟨h.os, h.tape, h.output, h.size, h.block⟩
theorem drewN {b : Nat} {a w : World} (n : Nat) (h : Keep b a w) : Keep b a (w.drewN n) := ⟨h.os, h.tape, h.output, h.size, h.block⟩
theorem alloc {b : Nat} {a w : World} (h : Keep b a w) (o : Obj) : Keep b a (w.alloc o) :=
  h.trans ⟨rfl, rfl, rfl, by simp, fun k hk _ => Below.heap_alloc w o k hk⟩
theorem setCell {b : Nat} {a w : World} (h : Keep b a w) {p : Addr} (hp : p.block = b) (u : Value) : Keep b a (w.setCell p u) :=
  h.trans ⟨by simp [World.setCell], by simp [World.setCell], by simp [World.setCell], by simp [World.setCell], fun k _ hb => Below.heap_setCell w p u k (by rw [hp]; exact hb)⟩
theorem setNew {b : Nat} {a w : World} (h : Keep b a w) {p : Addr} (hp : a.heap.size ≤ p.block) (u : Value) : Keep b a (w.setCell p u) :=
  ⟨by simpa [World.setCell] using h.os, by simpa [World.setCell] using h.tape, by simpa [World.setCell] using h.output, by simpa [World.setCell] using h.size, fun k hk hb => (Below.heap_setCell w p u k (by omega)).trans (h.block k hk hb)⟩
theorem of_below {b : Nat} {w w' : World} (h : Below w.heap.size w w') : Keep b w w' := ⟨h.os, h.tape, h.output, h.size, fun k hk _ => h.block k hk⟩
theorem cell {b : Nat} {w w' : World} (h : Keep b w w') {p : Addr} (hp : p.block < w.heap.size) (hb : p.block ≠ b) : w'.cell? p = w.cell? p := World.cell?_of_block (w := w) (h.block p.block hp hb)
theorem frozen {b : Nat} {w w' : World} (h : Keep b w w') {p : Addr} (hp : p.block < w.heap.size) (hb : p.block ≠ b) : w'.frozen? p = w.frozen? p := World.frozen?_of_block (w := w) (h.block p.block hp hb)
theorem below {b B : Nat} {w w' : World} (h : Keep b w w') (hB : B ≤ w.heap.size) (hb : B ≤ b) : Below B w w' := ⟨h.os, h.tape, h.output, h.size, fun k hk => h.block k (by omega) (by omega)⟩
end Keep

/-- The reader lies in block b: its text, where it is, how deep. -/
structure Rd (b : Nat) (s : ByteArray) (i d : Nat) (w : World) : Prop where
  c0 : w.cell? ⟨b, 0, none⟩ = some (.string s)
  c1 : w.cell? ⟨b, 1, none⟩ = some (.int .i64 (i : Int))
  c2 : w.cell? ⟨b, 2, none⟩ = some (.int .i64 (d : Int))
  f1 : w.frozen? ⟨b, 1, none⟩ = false
  f2 : w.frozen? ⟨b, 2, none⟩ = false
namespace Rd
theorem lt {b : Nat} {s : ByteArray} {i d : Nat} {w : World} (h : Rd b s i d w) : b < w.heap.size := World.block_lt_of_cell? _ _ h.c0
theorem drew {b : Nat} {s : ByteArray} {i d : Nat} {w : World} (h : Rd b s i d w) : Rd b s i d w.drew := ⟨h.c0, h.c1, h.c2, h.f1, h.f2⟩
theorem drewN {b : Nat} {s : ByteArray} {i d : Nat} {w : World} (n : Nat) (h : Rd b s i d w) : Rd b s i d (w.drewN n) := ⟨h.c0, h.c1, h.c2, h.f1, h.f2⟩
theorem below {b : Nat} {s : ByteArray} {i d : Nat} {w w' : World} (h : Rd b s i d w) (hb : Below w.heap.size w w') : Rd b s i d w' :=
  ⟨(hb.cell h.lt).trans h.c0, (hb.cell h.lt).trans h.c1, (hb.cell h.lt).trans h.c2, (hb.frozen h.lt).trans h.f1, (hb.frozen h.lt).trans h.f2⟩
theorem set1 {b : Nat} {s : ByteArray} {i d : Nat} {w : World} (h : Rd b s i d w) (j : Nat) : Rd b s j d (w.setCell ⟨b, 1, none⟩ (.int .i64 (j : Int))) :=
  ⟨(World.cell?_setCell_other w _ _ _ (by simp)).trans h.c0, World.cell?_setCell_same w _ _ h.c1, (World.cell?_setCell_other w _ _ _ (by simp)).trans h.c2, by simp [h.f1], by simp [h.f2]⟩
theorem set2 {b : Nat} {s : ByteArray} {i d : Nat} {w : World} (h : Rd b s i d w) (j : Nat) : Rd b s i j (w.setCell ⟨b, 2, none⟩ (.int .i64 (j : Int))) :=
  ⟨(World.cell?_setCell_other w _ _ _ (by simp)).trans h.c0, (World.cell?_setCell_other w _ _ _ (by simp)).trans h.c1, World.cell?_setCell_same w _ _ h.c2, by simp [h.f1], by simp [h.f2]⟩
end Rd
theorem ret_u8 {a b : Int} (h : a = b) : Ending.returned (.int .u8 a) = .returned (.int .u8 b) := by rw [h]
theorem sg_at (s : ByteArray) (i : Nat) (h : i < s.size) : Ex.sg s.data.toList i = s[i].toNat := by
  unfold Ex.sg
  have e : s.data.toList.length = s.size := by simp
  rw [if_pos (by rw [e]; exact h), getD_byte s i h]
theorem sg_end (s : ByteArray) (i : Nat) (h : ¬ i < s.size) : Ex.sg s.data.toList i = 32 := by
  unfold Ex.sg
  have e : s.data.toList.length = s.size := by simp
  rw [if_neg (by rw [e]; exact h)]
theorem blank_at (s : ByteArray) (i : Nat) (h : i < s.size) (hb : ((s[i].toNat : Int) == 32) = true) : s.data.toList.getD i 0 = 32 := by
  rw [getD_byte s i h, ← UInt8.toNat_inj]
  have := beq_iff_eq.1 hb
  show s[i].toNat = 32
  omega
theorem not_blank_at (s : ByteArray) (i : Nat) (h : i < s.size) (hb : ((s[i].toNat : Int) == 32) = false) : s.data.toList.getD i 0 ≠ 32 := by
  rw [getD_byte s i h]
  intro e
  have h2 := beq_eq_false_iff_ne.1 hb
  apply h2
  rw [e]; rfl
set_option maxHeartbeats 1000000 in
theorem sign_any (b : Nat) (s : ByteArray) (i d : Nat) (w : World) (h : Rd b s i d w) (hi : i ≤ s.size) (hs : s.size ≤ 2000) :
    Calls Tryz.prog 105 #[.pointer (some ⟨b, 0, none⟩)] w fun e w' =>
      e = .returned (.int .u8 (Ex.sg s.data.toList (Ex.skip s.data.toList i))) ∧ Rd b s (Ex.skip s.data.toList i) d w' ∧ Keep b w w' := by
  have HL : Hid (s.data.toList.length = s.size) := by show _ = _; simp
  go_enter Tryz.func105, Tryz.ntmps105
  go_wp2
  go_loopg [] (s.size - i) (fun n wr => ∃ j : Nat, j ≤ s.size ∧ n = s.size - j ∧ Rd b s j d wr ∧ Keep b w wr ∧ Ex.skip s.data.toList j = Ex.skip s.data.toList i)
  case atStart => exact ⟨i, hi, rfl, h, Keep.refl _ _, rfl⟩
  case round =>
    obtain ⟨j, hj, hn, hr, hk, hsk⟩ := hrel
    have HN := hide hn
    have HR := hide hr
    have HK := hide hk
    have HS := hide hsk
    obtain ⟨c0, c1, c2, f1, f2⟩ := hr
    clear hn hk hsk
    by_cases hlt : j < s.size
    · have hlt' : (j : Int) < (s.size : Int) := by omega
      cases hb : ((s[j].toNat : Int) == 32) with
      | true =>
        have HX : Hid (Ex.skip s.data.toList (j + 1) = Ex.skip s.data.toList i) := by
          show _ = _
          rw [← Ex.skip_blank s.data.toList j (by rw [HL.out]; exact hlt) (blank_at s j hlt hb)]; exact HS.out
        go_wp2_with fail
        go_quiet (fail)
        go_wp2
        go_roundg (s.size - (j + 1))
        case measure => rw [HN.out]; omega
        case rel => exact ⟨j + 1, by omega, rfl, ((HR.out.drewN _).set1 (j + 1)), (HK.out.drewN _).setCell rfl _, HX.out⟩
      | false =>
        have HX : Hid (Ex.skip s.data.toList i = j) := by
          show _ = _
          rw [← HS.out]; exact Ex.skip_stop s.data.toList j (by rw [HL.out]; exact hlt) (not_blank_at s j hlt hb)
        have hne : ((j : Int) == (s.size : Int)) = false := beq_eq_false_iff_ne.2 (by omega)
        go_wp2_with fail
        go_quiet (fail)
        go_wp2
        go_quiet (fail)
        go_wp2
        go_quiet (fail)
        go_wp2
        go_ret
        refine ⟨ret_u8 ?_, ?_, ?_⟩
        · rw [HX.out, sg_at s j hlt]
        · rw [HX.out]; exact ((HR.out.drewN _).drewN _).drewN _
        · exact ((HK.out.drewN _).drewN _).drewN _
    · have hlt' : decide ((j : Int) < (s.size : Int)) = false := decide_eq_false (by omega)
      have HX : Hid (Ex.skip s.data.toList i = j) := by
        show _ = _
        rw [← HS.out]; exact Ex.skip_end s.data.toList j (by rw [HL.out]; omega)
      have hne : ((j : Int) == (s.size : Int)) = true := beq_iff_eq.2 (by omega)
      go_wp2_with fail
      go_quiet (fail)
      go_wp2
      go_quiet (fail)
      go_wp2
      go_ret
      refine ⟨ret_u8 ?_, ?_, ?_⟩
      · rw [HX.out, sg_end s j hlt]; rfl
      · rw [HX.out]; exact (HR.out.drewN _).drewN _
      · exact (HK.out.drewN _).drewN _
/-- the reader's error: an At at where it is -/
theorem wrong_any (b : Nat) (s : ByteArray) (i d : Nat) (n : Int) (w : World) (h : Rd b s i d w) :
    Calls Tryz.prog 106 #[.pointer (some ⟨b, 0, none⟩), .int .i64 n] w fun e w' =>
      e = .returned (.iface 136 (.pointer (some ⟨w.heap.size, 0, none⟩))) ∧ w' = w.alloc (.cells #[.int .i64 n, .int .i64 (i : Int)] 137) := by
  obtain ⟨c0, c1, c2, f1, f2⟩ := h
  go_enter Tryz.func106, Tryz.ntmps106
  go_wp2
  go_ret
  exact ⟨rfl, rfl⟩
theorem ends_table : ∀ c : Fin 256, decide (0 ≤ Lib.indexByte [32, 38, 124, 33, 94, 126, 40, 41, 61] (c.val : Int).toNat.toUInt8) = Ex.ends c.val := by decide +kernel
theorem ends_index (c : Nat) (hc : c < 256) : decide (0 ≤ Lib.indexByte [32, 38, 124, 33, 94, 126, 40, 41, 61] (c : Int).toNat.toUInt8) = Ex.ends c := ends_table ⟨c, hc⟩
theorem endsWord_any (c : Nat) (hc : c < 256) (w : World) :
    Calls Tryz.prog 259 #[.int .u8 (c : Int)] w fun e w' => e = .returned (.bool (Ex.ends c)) ∧ w' = w := by
  have hx : ∀ w : World, (callFunc 163 #[.string ⟨#[32, 38, 124, 33, 94, 126, 40, 41, 61]⟩, .int .u8 (c : Int)]).run Tryz.prog w = .ok (.value (.int .i64 (Lib.indexByte [32, 38, 124, 33, 94, 126, 40, 41, 61] (c : Int).toNat.toUInt8))) w := by
    intro w
    rw [run_callFunc_extern Tryz.func163 (by kernel_rfl) (by kernel_rfl) (by kernel_rfl) (e := Extern.BytealgIndexByte.indexByte) (by kernel_rfl), Lib.run_indexByteString]
    rfl
  have HE := hide (ends_index c hc)
  clear hc
  generalize Lib.indexByte [32, 38, 124, 33, 94, 126, 40, 41, 61] (c : Int).toNat.toUInt8 = n at *
  go_enter Tryz.func259, Tryz.ntmps259
  go_wp2
  go_ret
  exact ⟨ret_bool HE.out, rfl⟩
end Go.Proofs.YtiamkoghflfjcaaGreatDoor
