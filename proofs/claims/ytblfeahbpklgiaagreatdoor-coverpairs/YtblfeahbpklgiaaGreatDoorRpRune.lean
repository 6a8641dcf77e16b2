/-
  What the walks of the document's own reader (package signalcabinref) go by: its cells in memory, expressions as it lays them; its skip, next and fail. The walks of strings.ContainsRune over the signs that end words, at each byte.
-/
import Derived.Test.YtblfeahbpklgiaaGreatDoorRdBase
import Derived.Test.YtblfeahbpklgiaaGreatDoorExRep
import Derived.Test.YtblfeahbpklgiaaGreatDoorShelf
import Derived.WalkMore
namespace Go.Proofs.YtblfeahbpklgiaaGreatDoor
open Go.RowKit
/-- The document's reader lies in block b: its text, where it is, its fault. -/
structure Rp (b : Nat) (s : ByteArray) (i : Nat) (err pl : Int) (w : World) : Prop where
  c0 : w.cell? ⟨b, 0, none⟩ = some (.string s)
  c1 : w.cell? ⟨b, 1, none⟩ = some (.int .i64 (i : Int))
  c2 : w.cell? ⟨b, 2, none⟩ = some (.int .i64 err)
  c3 : w.cell? ⟨b, 3, none⟩ = some (.int .i64 pl)
  f1 : w.frozen? ⟨b, 1, none⟩ = false
  f2 : w.frozen? ⟨b, 2, none⟩ = false
  f3 : w.frozen? ⟨b, 3, none⟩ = false
namespace Rp
variable {b : Nat} {s : ByteArray} {i : Nat} {err pl : Int} {w w' : World}
theorem lt (h : Rp b s i err pl w) : b < w.heap.size := World.block_lt_of_cell? _ _ h.c0
theorem drew (h : Rp b s i err pl w) : Rp b s i err pl w.drew := ⟨h.c0, h.c1, h.c2, h.c3, h.f1, h.f2, h.f3⟩
theorem drewN (n : Nat) (h : Rp b s i err pl w) : Rp b s i err pl (w.drewN n) := ⟨h.c0, h.c1, h.c2, h.c3, h.f1, h.f2, h.f3⟩
theorem of_block (h : Rp b s i err pl w) (e : w'.heap[b]? = w.heap[b]?) : Rp b s i err pl w' :=
  ⟨(World.cell?_of_block (w := w) e).trans h.c0, (World.cell?_of_block (w := w) e).trans h.c1, (World.cell?_of_block (w := w) e).trans h.c2, (World.cell?_of_block (w := w) e).trans h.c3, (World.frozen?_of_block (w := w) e).trans h.f1, (World.frozen?_of_block (w := w) e).trans h.f2, (World.frozen?_of_block (w := w) e).trans h.f3⟩
theorem below (h : Rp b s i err pl w) (hb : Below w.heap.size w w') : Rp b s i err pl w' := h.of_block (hb.block b h.lt)
theorem alloc (h : Rp b s i err pl w) (o : Obj) : Rp b s i err pl (w.alloc o) := h.below ((Below.refl _ _).alloc (Nat.le_refl _) o)
theorem grown {row : Option Nat} (h : Rp b s i err pl w) (hg : w.grownBy w' row) (hb : some b ≠ row) : Rp b s i err pl w' := h.of_block (hg.block b h.lt hb)
theorem set1 (h : Rp b s i err pl w) (j : Nat) : Rp b s j err pl (w.setCell ⟨b, 1, none⟩ (.int .i64 (j : Int))) :=
  ⟨(World.cell?_setCell_other w _ _ _ (by simp)).trans h.c0, World.cell?_setCell_same w _ _ h.c1, (World.cell?_setCell_other w _ _ _ (by simp)).trans h.c2, (World.cell?_setCell_other w _ _ _ (by simp)).trans h.c3, by simp [h.f1], by simp [h.f2], by simp [h.f3]⟩
theorem set2 (h : Rp b s i err pl w) (e : Int) : Rp b s i e pl (w.setCell ⟨b, 2, none⟩ (.int .i64 e)) :=
  ⟨(World.cell?_setCell_other w _ _ _ (by simp)).trans h.c0, (World.cell?_setCell_other w _ _ _ (by simp)).trans h.c1, World.cell?_setCell_same w _ _ h.c2, (World.cell?_setCell_other w _ _ _ (by simp)).trans h.c3, by simp [h.f1], by simp [h.f2], by simp [h.f3]⟩
theorem set3 (h : Rp b s i err pl w) (e : Int) : Rp b s i err e (w.setCell ⟨b, 3, none⟩ (.int .i64 e)) :=
  ⟨(World.cell?_setCell_other w _ _ _ (by simp)).trans h.c0, (World.cell?_setCell_other w _ _ _ (by simp)).trans h.c1, (World.cell?_setCell_other w _ _ _ (by simp)).trans h.c2, World.cell?_setCell_same w _ _ h.c3, by simp [h.f1], by simp [h.f2], by simp [h.f3]⟩
end Rp
set_option maxHeartbeats 1000000 in
set_option maxRecDepth 100000 in
theorem rskip_any (b : Nat) (s : ByteArray) (i : Nat) (err pl : Int) (w : World) (h : Rp b s i err pl w) (hi : i ≤ s.size) (hs : s.size ≤ 2000) :
    Calls Tryz.prog 43 #[.pointer (some ⟨b, 0, none⟩)] w fun e w' =>
      e = .returned (.tuple #[]) ∧ Rp b s (Ex.skip s.data.toList i) err pl w' ∧ Keep b w w' := by
  have HL : Hid (s.data.toList.length = s.size) := by show _ = _; simp
  go_enter Tryz.func43, Tryz.ntmps43
  go_wp2
  go_loopg [] (s.size - i) (fun n wr => ∃ j : Nat, j ≤ s.size ∧ n = s.size - j ∧ Rp b s j err pl wr ∧ Keep b w wr ∧ Ex.skip s.data.toList j = Ex.skip s.data.toList i)
  case atStart => exact ⟨i, hi, rfl, h, Keep.refl _ _, rfl⟩
  case round =>
    obtain ⟨j, hj, hn, hr, hk, hsk⟩ := hrel
    have HN := hide hn
    have HR := hide hr
    have HK := hide hk
    have HS := hide hsk
    obtain ⟨c0, c1, c2, c3, f1, f2, f3⟩ := hr
    clear hn hk hsk h
    by_cases hlt : j < s.size
    · have hlt' : (j : Int) < (s.size : Int) := by omega
      cases hb : ((s[j].toNat : Int) == 32) with
      | true =>
        have HX : Hid (Ex.skip s.data.toList (j + 1) = Ex.skip s.data.toList i) := by
          show _ = _
          rw [← Ex.skip_blank s.data.toList j (by rw [HL.out]; exact hlt) (blank_at s j hlt hb)]; exact HS.out
        go_wp2_with fail
        go_quiet (fail)
        go_wp2
        go_roundg (s.size - (j + 1))
        case measure => rw [HN.out]; omega
        case rel => exact ⟨j + 1, by omega, rfl, ((HR.out.drewN _).set1 (j + 1)), (HK.out.drewN _).setCell rfl _, HX.out⟩
      | false =>
        have HX : Hid (Ex.skip s.data.toList i = j) := by
          show _ = _
          rw [← HS.out]; exact Ex.skip_stop s.data.toList j (by rw [HL.out]; exact hlt) (not_blank_at s j hlt hb)
        go_wp2_with fail
        go_quiet (fail)
        go_wp2
        go_end0
        refine ⟨rfl, ?_, ?_⟩
        · rw [HX.out]; exact HR.out.drewN _
        · exact HK.out.drewN _
    · have hlt' : decide ((j : Int) < (s.size : Int)) = false := decide_eq_false (by omega)
      have HX : Hid (Ex.skip s.data.toList i = j) := by
        show _ = _
        rw [← HS.out]; exact Ex.skip_end s.data.toList j (by rw [HL.out]; omega)
      go_wp2_with fail
      go_quiet (fail)
      go_wp2
      go_end0
      refine ⟨rfl, ?_, ?_⟩
      · rw [HX.out]; exact HR.out.drewN _
      · exact HK.out.drewN _
/-- the sign's first byte, 0 behind the end -/
def rsg (l : List UInt8) (i : Nat) : Nat := if i < l.length then (l.getD i 0).toNat else 0
theorem rsg_at (s : ByteArray) (i : Nat) (h : i < s.size) : rsg s.data.toList i = s[i].toNat := by
  unfold rsg
  have e : s.data.toList.length = s.size := by simp
  rw [if_pos (by rw [e]; exact h), getD_byte s i h]
theorem rsg_end (s : ByteArray) (i : Nat) (h : ¬ i < s.size) : rsg s.data.toList i = 0 := by
  unfold rsg
  have e : s.data.toList.length = s.size := by simp
  rw [if_neg (by rw [e]; exact h)]
/-- of signs that are neither 0 nor blanks both say the same -/
theorem rsg_iff (l : List UInt8) (i c : Nat) (h0 : c ≠ 0) (h32 : c ≠ 32) : rsg l i = c ↔ Ex.sg l i = c := by
  unfold rsg Ex.sg
  by_cases h : i < l.length
  · rw [if_pos h, if_pos h]
  · rw [if_neg h, if_neg h]; omega
set_option maxRecDepth 100000 in
theorem rnext_any (b : Nat) (s : ByteArray) (i : Nat) (err pl : Int) (w : World) (h : Rp b s i err pl w) (hi : i ≤ s.size) (hs : s.size ≤ 2000) :
    Calls Tryz.prog 24 #[.pointer (some ⟨b, 0, none⟩)] w fun e w' =>
      e = .returned (.int .u8 (rsg s.data.toList (Ex.skip s.data.toList i))) ∧ Rp b s (Ex.skip s.data.toList i) err pl w' ∧ Keep b w w' := by
  have HL : Hid (s.data.toList.length = s.size) := by show _ = _; simp
  have HS := hide (rskip_any b s i err pl w h hi hs)
  have hle := Ex.skip_le s.data.toList i (by rw [HL.out]; exact hi)
  rw [HL.out] at hle
  clear h
  generalize Ex.skip s.data.toList i = j at *
  go_enter Tryz.func24, Tryz.ntmps24
  go_wp2_with fail
  refine HS.out.mono ?_
  rintro e w1 ⟨rfl, hr, hk⟩
  have HR := hide hr
  have HK := hide hk
  obtain ⟨c0, c1, c2, c3, f1, f2, f3⟩ := hr
  clear hk HS
  by_cases hlt : j < s.size
  · have hlt' : (j : Int) < (s.size : Int) := by omega
    have HX := hide (rsg_at s j hlt)
    go_wp2_with fail
    go_quiet (fail)
    go_wp2
    go_quiet (fail)
    go_wp2
    go_ret
    exact ⟨ret_u8 (by rw [HX.out]), (HR.out.drewN _).drewN _, (HK.out.drewN _).drewN _⟩
  · have hlt' : decide ((j : Int) < (s.size : Int)) = false := decide_eq_false (by omega)
    have HX := hide (rsg_end s j hlt)
    go_wp2_with fail
    go_quiet (fail)
    go_wp2
    go_ret
    exact ⟨ret_u8 (by rw [HX.out]; rfl), HR.out.drewN _, HK.out.drewN _⟩
set_option maxRecDepth 100000 in
theorem rfail_any (b : Nat) (s : ByteArray) (i : Nat) (pl n : Int) (w : World) (h : Rp b s i 0 pl w) (hi : i ≤ s.size) (hs : s.size ≤ 2000) :
    Calls Tryz.prog 25 #[.pointer (some ⟨b, 0, none⟩), .int .i64 n] w fun e w' =>
      e = .returned (.pointer none) ∧ Rp b s (Ex.skip s.data.toList i) n (Ex.skip s.data.toList i : Nat) w' ∧ Keep b w w' := by
  have HS := hide (rskip_any b s i 0 pl w h hi hs)
  clear h
  generalize Ex.skip s.data.toList i = j at *
  go_enter Tryz.func25, Tryz.ntmps25
  go_wp2_with fail
  refine HS.out.mono ?_
  rintro e w1 ⟨rfl, hr, hk⟩
  have HR := hide hr
  have HK := hide hk
  obtain ⟨c0, c1, c2, c3, f1, f2, f3⟩ := hr
  clear hk HS
  go_wp2_with fail
  go_ret
  exact ⟨rfl, (HR.out.set2 n).set3 _, (HK.out.setCell rfl _).setCell rfl _⟩
def endSigns : ByteArray := ⟨#[32, 38, 124, 33, 94, 126, 40, 41, 61]⟩
theorem endSigns1 : (endSigns[1]'(by decide)).toNat = 38 := by decide
theorem encode_high : ∀ c : Fin 128, (Utf8.encode ((128 + c.val : Nat) : Int)).size = 2 ∧ 128 ≤ ((Utf8.encode ((128 + c.val : Nat) : Int)).get! 1).toNat ∧ Lib.indexByte (endSigns.extract 2 9).data.toList ((Utf8.encode ((128 + c.val : Nat) : Int)).get! 1) = -1 := by decide +kernel
set_option maxHeartbeats 2000000 in
set_option maxRecDepth 100000 in
theorem indexRune_walk (s rs : ByteArray) (c yn : Nat) (h1 : 128 ≤ c) (h2 : c < 256) (hsz : s.size = 9) (hs1 : (s[1]'(by omega)).toNat = 38) (hen : Utf8.encode (c : Int) = rs) (hrs : rs.size = 2) (hrs1 : (rs[1]'(by omega)).toNat = yn) (hy : 128 ≤ yn)
    (hx : Lib.indexByte (s.extract 2 9).data.toList (yn : Int).toNat.toUInt8 = -1) (w : World) :
    Calls Tryz.prog 89 #[.string s, .int .i32 (c : Int)] w fun e w' => e = .returned (.int .i64 (-1)) ∧ ∃ n, w' = w.drewN n := by
  have hv : Lib.validRune (c : Int) = true := by unfold Lib.validRune; simp; omega
  have e1 : ¬ (c : Int) < 128 := by omega
  have e2 : ((c : Int) == 65533) = false := beq_eq_false_iff_ne.2 (by omega)
  have e3 : ((38 : Int) != (yn : Int)) = true := by simp; omega
  have hw2 : IntKind.i64.wrap 2 = 2 := by decide
  clear hy
  go_enter Tryz.func89, Tryz.ntmps89
  go_wp2_with fail
  refine (Tryz.utf8_ValidRune (c : Int) w).mono ?_
  rintro e w1 ⟨rfl, rfl⟩
  rw [hv]
  go_wp2_with fail
  go_step3
  go_wp2_with fail
  go_loop [9] (fun i => i = .int .i64 1) (fun _ => 0)
  case atStart => exact rfl
  case round =>
    obtain rfl := hrel
    go_wp2_with fail
    go_step3
    go_wp2_with fail
    go_quiet (fail)
    go_wp2_with fail
    go_quiet ((go_at_call 105; refine (Tryz.strings_IndexByte _ _ _).mono ?_; rintro e w'' ⟨rfl, rfl⟩; exact ⟨rfl, _, rfl⟩))
    rw [hx]
    go_wp2_with fail
    rw [Exit.noGoto_ret]
    go_wp2_with fail
    first | rw [Exit.noGoto_ret] | skip
    go_ret
    exact ⟨rfl, _, rfl⟩
theorem indexRune_high (c : Nat) (h1 : 128 ≤ c) (h2 : c < 256) (w : World) :
    Calls Tryz.prog 89 #[.string ⟨#[32, 38, 124, 33, 94, 126, 40, 41, 61]⟩, .int .i32 (c : Int)] w fun e w' => e = .returned (.int .i64 (-1)) ∧ ∃ n, w' = w.drewN n := by
  have hen := encode_high ⟨c - 128, by omega⟩
  rw [show (128 + (⟨c - 128, by omega⟩ : Fin 128).val) = c from by show 128 + (c - 128) = c; omega] at hen
  obtain ⟨rs, hrs⟩ : ∃ rs, Utf8.encode (c : Int) = rs := ⟨_, rfl⟩
  rw [hrs] at hen
  obtain ⟨e1, e2, e3⟩ := hen
  have hg : rs.get! 1 = rs[1]'(by omega) := getElem!_pos rs.data 1 (by show 1 < rs.size; omega)
  rw [hg] at e2 e3
  refine indexRune_walk endSigns rs c _ h1 h2 (by decide) endSigns1 hrs e1 rfl e2 ?_ w
  generalize rs[1]'(by omega) = y at *
  have : ((y.toNat : Int).toNat.toUInt8) = y := by simp
  rw [this]
  exact e3
set_option maxHeartbeats 1000000 in
set_option maxRecDepth 100000 in
theorem containsRune_any (c : Nat) (hc : c < 256) (w : World) :
    Calls Tryz.prog 62 #[.string ⟨#[32, 38, 124, 33, 94, 126, 40, 41, 61]⟩, .int .i32 (c : Int)] w fun e w' => e = .returned (.bool (Ex.ends c)) ∧ ∃ n, w' = w.drewN n := by
  by_cases h1 : c < 128
  · refine (Tryz.strings_ContainsRune_ascii _ (c : Int) w (by omega) (by omega)).mono ?_
    rintro e w' ⟨rfl, rfl⟩
    exact ⟨ret_bool (ends_index c hc), 0, rfl⟩
  · have hx : Ex.ends c = false := by
      have : ∀ c : Fin 128, Ex.ends (128 + c.val) = false := by decide +kernel
      have := this ⟨c - 128, by omega⟩
      rwa [show (128 + (⟨c - 128, by omega⟩ : Fin 128).val) = c from by show 128 + (c - 128) = c; omega] at this
    rw [hx]
    have HX := hide (indexRune_high c (by omega) hc w)
    clear hx h1 hc
    generalize (⟨#[32, 38, 124, 33, 94, 126, 40, 41, 61]⟩ : ByteArray) = s at *
    go_enter Tryz.func62, Tryz.ntmps62
    go_wp2_with fail
    refine HX.out.mono ?_
    rintro e w1 ⟨rfl, n, rfl⟩
    go_wp2_with fail
    go_ret
    exact ⟨rfl, n, rfl⟩
end Go.Proofs.YtblfeahbpklgiaaGreatDoor
