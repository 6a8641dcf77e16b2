/-
  What the walks of package expr's reader go by: the reader's cells in memory; that all else is as it was. (Out of RdBase: no function is named.)
-/
import Derived.Test.YtblfeahbpklgiaaGreatDoorNmWalk
import Derived.Test.YtblfeahbpklgiaaGreatDoorExAdv
import Derived.Deep.QuietTactic
import Derived.BigQuiet
import Derived.Deep.LoopGhost
import Derived.Lib.Bytealg
namespace Go.Proofs.YtblfeahbpklgiaaGreatDoor
open Go.RowKit

/-- Memory is as it was, but for block b and what is new. -/
structure Keep (b : Nat) (w w' : World) : Prop where
  os : w'.os = w.os
  tape : w'.tape = w.tape
  output : w'.output = w.output
  size : w.heap.size ≤ w'.heap.size
  block : ∀ k, k < w.heap.size → k ≠ b → w'.heap[k]? = w.heap[k]?
namespace Keep
theorem refl (b : Nat) (w : World) : Keep b w w := ⟨rfl, rfl, rfl, Nat.le_refl _, fun _ _ _ => rfl⟩
theorem trans {b : Nat} {x y z : World} (h : Keep b x y) (k : Keep b y z) : Keep b x z :=
  ⟨k.os.trans h.os, k.tape.trans h.tape, k.output.trans h.output, Nat.le_trans h.size k.size, fun i hi hb => (k.block i (Nat.lt_of_lt_of_le hi h.size) hb).trans (h.block i hi hb)⟩
theorem drew {b : Nat} {a w : World} (h : Keep b a w) : Keep b a w.drew := ⟨h.os, h.tape, h.output, h.size, h.block⟩
theorem drewN {b : Nat} {a w : World} (n : Nat) (h : Keep b a w) : Keep b a (w.drewN n) := ⟨h.os, h.tape, h.output, h.size, h.block⟩
theorem alloc {b : Nat} {a w : World} (h : Keep b a w) (o : Obj) : Keep b a (w.alloc o) :=
  h.trans ⟨rfl, rfl, rfl, by simp, fun k hk _ => Below.heap_alloc w o k hk⟩
theorem setCell {b : Nat} {a w : World} (h : Keep b a w) {p : Addr} (hp : p.block = b) (u : Value) : Keep b a (w.setCell p u) :=
  h.trans ⟨by simp [World.setCell], by simp [World.setCell], by simp [World.setCell], by simp [World.setCell], fun k _ hb => Below.heap_setCell w p u k (by rw [hp]; exact hb)⟩
theorem setNew {b : Nat} {a w : World} (h : Keep b a w) {p : Addr} (hp : a.heap.size ≤ p.block) (u : Value) : Keep b a (w.setCell p u) :=
  ⟨by simpa [World.setCell] using h.os, by simpa [World.setCell] using h.tape, by simpa [World.setCell] using h.output, by simpa [World.setCell] using h.size, fun k hk hb => (Below.heap_setCell w p u k (by omega)).trans (h.block k hk hb)⟩
theorem of_below {b : Nat} {w w' : World} (h : Below w.heap.size w w') : Keep b w w' := ⟨h.os, h.tape, h.output, h.size, fun k hk _ => h.block k hk⟩
theorem cell {b : Nat} {w w' : World} (h : Keep b w w') {p : Addr} (hp : p.block < w.heap.size) (hb : p.block ≠ b) : w'.cell? p = w.cell? p := World.cell?_of_block (w := w) (h.block p.block hp hb)
theorem frozen {b : Nat} {w w' : World} (h : Keep b w w') {p : Addr} (hp : p.block < w.heap.size) (hb : p.block ≠ b) : w'.frozen? p = w.frozen? p := World.frozen?_of_block (w := w) (h.block p.block hp hb)
theorem below {b B : Nat} {w w' : World} (h : Keep b w w') (hB : B ≤ w.heap.size) (hb : B ≤ b) : Below B w w' := ⟨h.os, h.tape, h.output, h.size, fun k hk => h.block k (by omega) (by omega)⟩
end Keep

/-- The reader lies in block b: its text, where it is, how deep. -/
structure Rd (b : Nat) (s : ByteArray) (i d : Nat) (w : World) : Prop where
  c0 : w.cell? ⟨b, 0, none⟩ = some (.string s)
  c1 : w.cell? ⟨b, 1, none⟩ = some (.int .i64 (i : Int))
  c2 : w.cell? ⟨b, 2, none⟩ = some (.int .i64 (d : Int))
  f1 : w.frozen? ⟨b, 1, none⟩ = false
  f2 : w.frozen? ⟨b, 2, none⟩ = false
namespace Rd
theorem lt {b : Nat} {s : ByteArray} {i d : Nat} {w : World} (h : Rd b s i d w) : b < w.heap.size := World.block_lt_of_cell? _ _ h.c0
theorem drew {b : Nat} {s : ByteArray} {i d : Nat} {w : World} (h : Rd b s i d w) : Rd b s i d w.drew := ⟨h.c0, h.c1, h.c2, h.f1, h.f2⟩
theorem drewN {b : Nat} {s : ByteArray} {i d : Nat} {w : World} (n : Nat) (h : Rd b s i d w) : Rd b s i d (w.drewN n) := ⟨h.c0, h.c1, h.c2, h.f1, h.f2⟩
theorem below {b : Nat} {s : ByteArray} {i d : Nat} {w w' : World} (h : Rd b s i d w) (hb : Below w.heap.size w w') : Rd b s i d w' :=
  ⟨(hb.cell h.lt).trans h.c0, (hb.cell h.lt).trans h.c1, (hb.cell h.lt).trans h.c2, (hb.frozen h.lt).trans h.f1, (hb.frozen h.lt).trans h.f2⟩
theorem set1 {b : Nat} {s : ByteArray} {i d : Nat} {w : World} (h : Rd b s i d w) (j : Nat) : Rd b s j d (w.setCell ⟨b, 1, none⟩ (.int .i64 (j : Int))) :=
  ⟨(World.cell?_setCell_other w _ _ _ (by simp)).trans h.c0, World.cell?_setCell_same w _ _ h.c1, (World.cell?_setCell_other w _ _ _ (by simp)).trans h.c2, by simp [h.f1], by simp [h.f2]⟩
theorem set2 {b : Nat} {s : ByteArray} {i d : Nat} {w : World} (h : Rd b s i d w) (j : Nat) : Rd b s i j (w.setCell ⟨b, 2, none⟩ (.int .i64 (j : Int))) :=
  ⟨(World.cell?_setCell_other w _ _ _ (by simp)).trans h.c0, (World.cell?_setCell_other w _ _ _ (by simp)).trans h.c1, World.cell?_setCell_same w _ _ h.c2, by simp [h.f1], by simp [h.f2]⟩
end Rd
theorem ret_u8 {a b : Int} (h : a = b) : Ending.returned (.int .u8 a) = .returned (.int .u8 b) := by rw [h]
theorem sg_at (s : ByteArray) (i : Nat) (h : i < s.size) : Ex.sg s.data.toList i = s[i].toNat := by
  unfold Ex.sg
  have e : s.data.toList.length = s.size := by simp
  rw [if_pos (by rw [e]; exact h), getD_byte s i h]
theorem sg_end (s : ByteArray) (i : Nat) (h : ¬ i < s.size) : Ex.sg s.data.toList i = 32 := by
  unfold Ex.sg
  have e : s.data.toList.length = s.size := by simp
  rw [if_neg (by rw [e]; exact h)]
theorem blank_at (s : ByteArray) (i : Nat) (h : i < s.size) (hb : ((s[i].toNat : Int) == 32) = true) : s.data.toList.getD i 0 = 32 := by
  rw [getD_byte s i h, ← UInt8.toNat_inj]
  have := beq_iff_eq.1 hb
  show s[i].toNat = 32
  omega
theorem not_blank_at (s : ByteArray) (i : Nat) (h : i < s.size) (hb : ((s[i].toNat : Int) == 32) = false) : s.data.toList.getD i 0 ≠ 32 := by
  rw [getD_byte s i h]
  intro e
  have h2 := beq_eq_false_iff_ne.1 hb
  apply h2
  rw [e]; rfl
end Go.Proofs.YtblfeahbpklgiaaGreatDoor
