/-
  The walks of package ladder's formAt, moved, takeName, takeRung and take.
-/
import Derived.Test.YtiamkoghflfjcaaGreatDoorLdRd
import Derived.Test.YtiamkoghflfjcaaGreatDoorErWalk
import Derived.Deep.AppendLies
import Derived.Deep.RegionLaw
import Derived.Deep.RegionHeld3
namespace Go.Proofs.YtiamkoghflfjcaaGreatDoor
open Go.RowKit
/-- an error at a place lies in such a block -/
def FreshE (B : Nat) (v : Value) : Prop := ∀ a, v = .iface 136 (.pointer (some ⟨a, 0, none⟩)) → B ≤ a
theorem formAt_any (st : Nat) (w : World) : Calls Tryz.prog 178 #[.int .i64 (st : Int)] w fun e w' => ∃ v, e = .returned v ∧ ErrIs w' v (some (3, some st)) ∧ Below w.heap.size w w' ∧ FreshE w.heap.size v := by
  go_enter Tryz.func178, Tryz.ntmps178
  go_wp2_with fail
  go_ret
  exact ⟨_, rfl, ⟨w.heap.size, rfl, by simp [go_sem], by simp [go_sem]⟩, (Below.refl _ _).alloc (Nat.le_refl _) _, fun a h => by simp at h; omega⟩
/-- what Cut answers, at the first = -/
def CutRes (s : List UInt8) : Option (List UInt8 × List UInt8) → Ending → Prop
  | none, e => e = .returned (.tuple #[.string ⟨s.toArray⟩, .string ⟨#[]⟩, .bool false])
  | some (a, t), e => e = .returned (.tuple #[.string ⟨a.toArray⟩, .string ⟨t.toArray⟩, .bool true])
theorem Cut_any (s : List UInt8) (w : World) (hs : s.length ≤ 20000) :
    Calls Tryz.prog 128 #[.string ⟨s.toArray⟩, .string ⟨#[61]⟩] w fun e w' => (∃ n, w' = w.drewN n) ∧ CutRes s (Ld.cutE s) e := by
  have HI := hide (Tryz.stringslite_Index_one ⟨s.toArray⟩ 61 w)
  have e0 : (⟨s.toArray⟩ : ByteArray).data.toList = s := rfl
  rw [e0] at HI
  have es : (⟨s.toArray⟩ : ByteArray).size = s.length := by simp [ByteArray.size]
  have inner : Calls Tryz.prog 175 #[.string ⟨s.toArray⟩, .string ⟨#[61]⟩] w fun e w' => (∃ n, w' = w.drewN n) ∧ CutRes s (Ld.cutE s) e := by
    rcases Ld.index_split 61 s with ⟨hi, hno⟩ | ⟨a, r, hr, hno, hi⟩
    · have HC : Hid (Ld.cutE s = none) := Ld.cutE_none s hno
      rw [hi] at HI
      clear e0
      go_enter Tryz.func175, Tryz.ntmps175
      go_wp2_with fail
      refine HI.out.mono ?_
      rintro e w' ⟨rfl, rfl⟩
      go_wp2_with fail
      go_ret3
      exact ⟨⟨0, rfl⟩, by rw [HC.out]; rfl⟩
    · have HC : Hid (Ld.cutE s = some (a, r)) := by show _ = _; rw [hr]; exact Ld.cutE_at a r hno
      rw [hi] at HI
      have hlr : s.length = a.length + 1 + r.length := by rw [hr]; simp; omega
      have hx1 : (⟨s.toArray⟩ : ByteArray).extract 0 a.length = ⟨a.toArray⟩ := by
        apply ByteArray.ext
        rw [ByteArray.data_extract]
        show s.toArray.extract 0 a.length = a.toArray
        rw [List.extract_toArray, hr]
        simp [List.extract]
      have hx2 : (⟨s.toArray⟩ : ByteArray).extract (a.length + 1) (a.length + 1 + r.length) = ⟨r.toArray⟩ := by
        apply ByteArray.ext
        rw [ByteArray.data_extract]
        show s.toArray.extract (a.length + 1) (a.length + 1 + r.length) = r.toArray
        rw [List.extract_toArray, hr]
        have e1 : (a ++ 61 :: r) = (a ++ [61]) ++ r := by simp
        have e2 : a.length + 1 = (a ++ [61]).length := by simp
        rw [e1, e2, List.extract, List.drop_left, Nat.add_sub_cancel_left, List.take_length]
      have HX1 := hide hx1
      have HX2 := hide hx2
      clear e0 hr hx1 hx2
      go_enter Tryz.func175, Tryz.ntmps175
      go_wp2_with fail
      refine HI.out.mono ?_
      rintro e w' ⟨rfl, rfl⟩
      go_wp2_with fail
      go_quiet (fail)
      go_wp2_with fail
      go_ret3
      exact ⟨⟨nq, rfl⟩, by
        rw [HC.out]
        show _ = Ending.returned (.tuple #[.string ⟨a.toArray⟩, .string ⟨r.toArray⟩, .bool true])
        rw [← HX1.out, ← HX2.out]; rfl⟩
  have HIN := hide inner
  generalize Ld.cutE s = o at *
  clear inner HI e0 es
  match o, HIN with
  | none, HIN =>
    go_enter Tryz.func128, Tryz.ntmps128
    go_wp2_with fail
    refine HIN.out.mono ?_
    rintro e w' ⟨⟨n, hw⟩, rfl⟩
    have HW := hide hw
    clear HIN hw
    go_wp2_with fail
    go_ret3
    exact ⟨⟨n, HW.out⟩, rfl⟩
  | some (a, t), HIN =>
    go_enter Tryz.func128, Tryz.ntmps128
    go_wp2_with fail
    refine HIN.out.mono ?_
    rintro e w' ⟨⟨n, hw⟩, rfl⟩
    have HW := hide hw
    clear HIN hw
    go_wp2_with fail
    go_ret3
    exact ⟨⟨n, HW.out⟩, rfl⟩
/-- an error, moved on: its place counts from another byte on -/
theorem moved_any (v : Value) (er : Nat) (pl : Option Nat) (at_ : Nat) (w : World) (hv : ErrIs w v (some (er, pl))) (hd : ErAs.Door w) (hl : at_ ≤ 2000000000 ∧ pl.getD 0 ≤ 100000) :
    Calls Tryz.prog 180 #[v, .int .i64 (at_ : Int)] w fun e w' => ∃ u, e = .returned u ∧ ErrIs w' u (some (er, some (at_ + pl.getD 0))) ∧ Below w.heap.size w w' ∧ FreshE w.heap.size u := by
  cases pl with
  | none =>
    obtain rfl : v = .iface 47 (.int .i64 (er : Int)) := hv
    have HC := hide (ErAs.Tell_any (.iface 47 (.int .i64 (er : Int))) er w hd (.inl rfl))
    have sE := ErAs.atE
    clear hd
    go_enter Tryz.func180, Tryz.ntmps180
    go_wp2_with fail
    refine HC.out.mono ?_
    rintro e w1 ⟨rfl, hb⟩
    have HB := hide hb
    clear hb HC
    go_wp2_with fail
    go_ret
    exact ⟨_, rfl, ⟨w1.heap.size, rfl, by simp [go_sem], by simp [go_sem]⟩, HB.out.alloc HB.out.size _, fun a h => by have := HB.out.size; simp at h; omega⟩
  | some p =>
    obtain ⟨a, rfl, h0, h1⟩ := hv
    have hlt : a < w.heap.size := World.block_lt_of_cell? _ _ h0
    have sA := ErAs.atA
    simp only [Option.getD_some] at hl ⊢
    clear hd
    go_enter Tryz.func180, Tryz.ntmps180
    go_wp2_with fail
    go_region_held3 (fun W => W.cell? ⟨a, 0, none⟩ = some (.int .i64 (er : Int)) ∧ W.cell? ⟨a, 1, none⟩ = some (.int .i64 (p : Int))) (go_keep) (fail)
    all_goals go_wp2_with fail
    all_goals go_ret
    all_goals
      have hwr : IntKind.i64.wrap ((at_ : Int) + (p : Int)) = ((at_ + p : Nat) : Int) := by rw [IntKind.wrap_i64]; omega
      rw [hwr]
      exact ⟨_, rfl, ⟨w.heap.size, rfl, by simp [go_sem], by simp [go_sem]⟩, ⟨rfl, rfl, rfl, by simp, fun k hk => Below.heap_alloc _ _ _ hk⟩, fun a h => by simp at h; omega⟩
end Go.Proofs.YtiamkoghflfjcaaGreatDoor
