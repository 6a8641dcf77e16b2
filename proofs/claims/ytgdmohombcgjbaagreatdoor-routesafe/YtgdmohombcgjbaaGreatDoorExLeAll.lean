/-
  The walk of package route's Ladder, whole: a table that may not be gives an error, any other its program. What a type switch over an expression comes to, type by type. Expressions in memory: small facts.
-/
import Derived.Test.YtgdmohombcgjbaaGreatDoorRoPrgAll
import Derived.Test.YtgdmohombcgjbaaGreatDoorRdKeepAll
import Derived.Defers
import Derived.Recover
namespace Go.Proofs.YtgdmohombcgjbaaGreatDoor
section
namespace Ro
open Go.RowKit
theorem good_of {t : Tbl} {S P : Nat} (f : Fits t S P) : Good t := ⟨f.R3, fun r hr s hs => by have h1 := f.secs r hr s hs; have h2 := f.S3; omega, f.some, fun r hr => by have := f.ls r hr; omega, fun r hr => by have := f.lp r hr; omega⟩
theorem err_some {w : World} {v : Value} : ∀ {r : Option (Nat × Option Nat)}, ErrIs w v r → r ≠ none → ∃ t x, v = .iface t x
  | none, _, h => absurd rfl h
  | some (_, none), h, _ => ⟨_, _, h⟩
  | some (_, some _), ⟨_, h, _⟩, _ => ⟨_, _, h⟩
theorem neqNil (t : TypeId) (y : Value) (w : World) : (binOp BinOp.neq 30 (.iface t y) .nilIface).run Tryz.prog w = .ok (.bool true) w := by kernel_rfl
set_option maxHeartbeats 4000000 in
set_option maxRecDepth 100000 in
theorem LadderBad_any (t : Tbl) (rv : Value) (w : World) (hr : Rts w rv t.rts) (hck : check t ≠ none) :
    Calls Tryz.prog 4 #[.agg #[.int .i64 t.secs, .int .i64 t.pts, rv]] w fun e w' => ∃ ty y, e = .returned (.tuple #[.agg #[.slice none 0 0, .slice none 0 0], .iface ty y]) ∧ Below w.heap.size w w' := by
  obtain ⟨ra, rc, rfl⟩ := hr.slice
  obtain ⟨wA, hwA⟩ : ∃ wA, wA = (w.alloc (.cells #[.int .i64 t.secs, .int .i64 t.pts, .slice ra t.rts.length rc] 24)).alloc (.cells #[.slice none 0 0, .slice none 0 0] 28) := ⟨_, rfl⟩
  have hbA : Below w.heap.size w wA := by rw [hwA]; exact then_ (newB _ _) (newB _ _)
  have rT : RowIs wA w.heap.size 24 [.int .i64 t.secs, .int .i64 t.pts, .slice ra t.rts.length rc] := by rw [hwA]; exact (RowIs.new _ _ _).alloc _
  have rP : RowIs wA (w.heap.size + 1) 28 [.slice none 0 0, .slice none 0 0] := by
    rw [hwA]
    have := RowIs.new (w.alloc (.cells #[.int .i64 t.secs, .int .i64 t.pts, .slice ra t.rts.length rc] 24)) 28 [.slice none 0 0, .slice none 0 0]
    rw [World.size_alloc] at this
    exact this
  have HCK : Hid (Calls Tryz.prog 9 #[.agg #[.int .i64 t.secs, .int .i64 t.pts, .slice ra t.rts.length rc]] wA fun e w' => ∃ ty y, e = .returned (.iface ty y) ∧ Below wA.heap.size wA w') := (Check_any t _ wA (hr.below hbA)).mono fun e w' ⟨v, h1, h2, h3⟩ => by
    obtain ⟨ty, y, h4⟩ := err_some h2 hck
    exact ⟨ty, y, by rw [h1, h4], h3⟩
  have HPC : Hid (∀ W, Below wA.heap.size wA W → W.cell? ⟨w.heap.size + 1, 0, none⟩ = some (.slice none 0 0) ∧ W.cell? ⟨w.heap.size + 1, 1, none⟩ = some (.slice none 0 0) ∧ W.frozen? ⟨w.heap.size + 1, 0, none⟩ = false ∧ W.frozen? ⟨w.heap.size + 1, 1, none⟩ = false ∧ w.heap.size + 1 < W.heap.size) := fun W hW => by
    have h := rP.below hW
    exact ⟨h.cell 0 _ rfl, h.cell 1 _ rfl, h.frozen 0, h.frozen 1, h.lt⟩
  have HFIN : Hid (∀ W, Below wA.heap.size wA W → ∀ x y : Value, ((W.setCell ⟨w.heap.size + 1, 0, none⟩ x).setCell ⟨w.heap.size + 1, 1, none⟩ y).cell? ⟨w.heap.size + 1, 0, none⟩ = some x ∧ ((W.setCell ⟨w.heap.size + 1, 0, none⟩ x).setCell ⟨w.heap.size + 1, 1, none⟩ y).cell? ⟨w.heap.size + 1, 1, none⟩ = some y ∧ Below w.heap.size w ((W.setCell ⟨w.heap.size + 1, 0, none⟩ x).setCell ⟨w.heap.size + 1, 1, none⟩ y)) := fun W hW x y => by
    have h := rP.below hW
    exact ⟨cell_set_other _ _ _ _ _ _ (by decide) (World.cell?_setCell_same _ _ _ (h.cell 0 _ rfl)), World.cell?_setCell_same _ _ _ (cell_set_other _ _ _ _ _ _ (by decide) (h.cell 1 _ rfl)), ((then_ hbA hW).setCell (Nat.le_succ _) _).setCell (Nat.le_succ _) _⟩
  have HW := hide hwA
  have x0 := rT.cell 0 _ rfl
  have x1 := rT.cell 1 _ rfl
  have x2 := rT.cell 2 _ rfl
  have hq := neqNil
  clear hwA hbA rT rP hr hck
  go_enter Tryz.func4, Tryz.ntmps4
  rw [HW.out] at x0 x1 x2
  go_wp2_with fail
  rw [← HW.out]
  clear x0 x1 x2
  refine HCK.out.mono ?_
  rintro e w1 ⟨ty, y, rfl, hb1⟩
  obtain ⟨z0, z1, z2⟩ := HFIN.out w1 hb1 (.slice none 0 0) (.slice none 0 0)
  obtain ⟨f0, f1, f2, f3, f4⟩ := HPC.out w1 hb1
  clear hb1 HCK HW
  go_wp2_with fail
  refine bodyPost_ret_by (v := .tuple #[.agg #[.slice none 0 0, .slice none 0 0], .iface ty y]) ?_ rfl ?_
  · simp [results, Tryz.results4, go_sem, z0, z1]
  · exact ⟨_, _, rfl, z2⟩
/-- Ladder, whole -/
theorem ladder_all (t : Tbl) (rv : Value) (w : World) (hr : Rts w rv t.rts) :
    Calls Tryz.prog 4 #[.agg #[.int .i64 t.secs, .int .i64 t.pts, rv]] w fun e w' => Below w.heap.size w w' ∧ ((check t ≠ none ∧ ∃ ty y, e = .returned (.tuple #[.agg #[.slice none 0 0, .slice none 0 0], .iface ty y])) ∨ (check t = none ∧ ∃ S P nv pv, Fits t S P ∧ e = .returned (.tuple #[.agg #[nv, pv], .nilIface]) ∧ IsPrg w' (ladderE t S P) (.agg #[nv, pv]))) := by
  by_cases h : check t = none
  · obtain ⟨S, P, f⟩ := fits_of t h
    exact (Ladder_any t rv S P w hr (good_of f) h f.R1 f.hS f.S3 f.hP f.P2).mono fun e w' ⟨nv, pv, h1, h2, h3⟩ => ⟨h3, .inr ⟨h, S, P, nv, pv, f, h1, prg_is f h2⟩⟩
  · exact (LadderBad_any t rv w hr h).mono fun e w' ⟨ty, y, h1, h2⟩ => ⟨h2, .inl ⟨h, ty, y, h1⟩⟩
end Ro
end
section
@[go_sem] theorem asConstConst (v : Value) (w : World) : (Instr.typeAssert (.iface 100 v) 34 100 true).run Tryz.prog w = .ok (.tuple #[v, .bool true]) w := by kernel_rfl
@[go_sem] theorem asConstBit (v : Value) (w : World) : (Instr.typeAssert (.iface 100 v) 34 102 true).run Tryz.prog w = .ok (.tuple #[.string ⟨#[]⟩, .bool false]) w := by kernel_rfl
@[go_sem] theorem asConstRise (v : Value) (w : World) : (Instr.typeAssert (.iface 100 v) 34 103 true).run Tryz.prog w = .ok (.tuple #[.string ⟨#[]⟩, .bool false]) w := by kernel_rfl
@[go_sem] theorem asConstFall (v : Value) (w : World) : (Instr.typeAssert (.iface 100 v) 34 104 true).run Tryz.prog w = .ok (.tuple #[.string ⟨#[]⟩, .bool false]) w := by kernel_rfl
@[go_sem] theorem asConstNot (v : Value) (w : World) : (Instr.typeAssert (.iface 100 v) 34 59 true).run Tryz.prog w = .ok (.tuple #[.agg #[.nilIface], .bool false]) w := by kernel_rfl
@[go_sem] theorem asConstAnd (v : Value) (w : World) : (Instr.typeAssert (.iface 100 v) 34 101 true).run Tryz.prog w = .ok (.tuple #[.slice none 0 0, .bool false]) w := by kernel_rfl
@[go_sem] theorem asConstOr (v : Value) (w : World) : (Instr.typeAssert (.iface 100 v) 34 143 true).run Tryz.prog w = .ok (.tuple #[.slice none 0 0, .bool false]) w := by kernel_rfl
@[go_sem] theorem asBitConst (v : Value) (w : World) : (Instr.typeAssert (.iface 102 v) 34 100 true).run Tryz.prog w = .ok (.tuple #[.bool false, .bool false]) w := by kernel_rfl
@[go_sem] theorem asBitBit (v : Value) (w : World) : (Instr.typeAssert (.iface 102 v) 34 102 true).run Tryz.prog w = .ok (.tuple #[v, .bool true]) w := by kernel_rfl
@[go_sem] theorem asBitRise (v : Value) (w : World) : (Instr.typeAssert (.iface 102 v) 34 103 true).run Tryz.prog w = .ok (.tuple #[.string ⟨#[]⟩, .bool false]) w := by kernel_rfl
@[go_sem] theorem asBitFall (v : Value) (w : World) : (Instr.typeAssert (.iface 102 v) 34 104 true).run Tryz.prog w = .ok (.tuple #[.string ⟨#[]⟩, .bool false]) w := by kernel_rfl
@[go_sem] theorem asBitNot (v : Value) (w : World) : (Instr.typeAssert (.iface 102 v) 34 59 true).run Tryz.prog w = .ok (.tuple #[.agg #[.nilIface], .bool false]) w := by kernel_rfl
@[go_sem] theorem asBitAnd (v : Value) (w : World) : (Instr.typeAssert (.iface 102 v) 34 101 true).run Tryz.prog w = .ok (.tuple #[.slice none 0 0, .bool false]) w := by kernel_rfl
@[go_sem] theorem asBitOr (v : Value) (w : World) : (Instr.typeAssert (.iface 102 v) 34 143 true).run Tryz.prog w = .ok (.tuple #[.slice none 0 0, .bool false]) w := by kernel_rfl
@[go_sem] theorem asRiseConst (v : Value) (w : World) : (Instr.typeAssert (.iface 103 v) 34 100 true).run Tryz.prog w = .ok (.tuple #[.bool false, .bool false]) w := by kernel_rfl
@[go_sem] theorem asRiseBit (v : Value) (w : World) : (Instr.typeAssert (.iface 103 v) 34 102 true).run Tryz.prog w = .ok (.tuple #[.string ⟨#[]⟩, .bool false]) w := by kernel_rfl
@[go_sem] theorem asRiseRise (v : Value) (w : World) : (Instr.typeAssert (.iface 103 v) 34 103 true).run Tryz.prog w = .ok (.tuple #[v, .bool true]) w := by kernel_rfl
@[go_sem] theorem asRiseFall (v : Value) (w : World) : (Instr.typeAssert (.iface 103 v) 34 104 true).run Tryz.prog w = .ok (.tuple #[.string ⟨#[]⟩, .bool false]) w := by kernel_rfl
@[go_sem] theorem asRiseNot (v : Value) (w : World) : (Instr.typeAssert (.iface 103 v) 34 59 true).run Tryz.prog w = .ok (.tuple #[.agg #[.nilIface], .bool false]) w := by kernel_rfl
@[go_sem] theorem asRiseAnd (v : Value) (w : World) : (Instr.typeAssert (.iface 103 v) 34 101 true).run Tryz.prog w = .ok (.tuple #[.slice none 0 0, .bool false]) w := by kernel_rfl
@[go_sem] theorem asRiseOr (v : Value) (w : World) : (Instr.typeAssert (.iface 103 v) 34 143 true).run Tryz.prog w = .ok (.tuple #[.slice none 0 0, .bool false]) w := by kernel_rfl
@[go_sem] theorem asFallConst (v : Value) (w : World) : (Instr.typeAssert (.iface 104 v) 34 100 true).run Tryz.prog w = .ok (.tuple #[.bool false, .bool false]) w := by kernel_rfl
@[go_sem] theorem asFallBit (v : Value) (w : World) : (Instr.typeAssert (.iface 104 v) 34 102 true).run Tryz.prog w = .ok (.tuple #[.string ⟨#[]⟩, .bool false]) w := by kernel_rfl
@[go_sem] theorem asFallRise (v : Value) (w : World) : (Instr.typeAssert (.iface 104 v) 34 103 true).run Tryz.prog w = .ok (.tuple #[.string ⟨#[]⟩, .bool false]) w := by kernel_rfl
@[go_sem] theorem asFallFall (v : Value) (w : World) : (Instr.typeAssert (.iface 104 v) 34 104 true).run Tryz.prog w = .ok (.tuple #[v, .bool true]) w := by kernel_rfl
@[go_sem] theorem asFallNot (v : Value) (w : World) : (Instr.typeAssert (.iface 104 v) 34 59 true).run Tryz.prog w = .ok (.tuple #[.agg #[.nilIface], .bool false]) w := by kernel_rfl
@[go_sem] theorem asFallAnd (v : Value) (w : World) : (Instr.typeAssert (.iface 104 v) 34 101 true).run Tryz.prog w = .ok (.tuple #[.slice none 0 0, .bool false]) w := by kernel_rfl
@[go_sem] theorem asFallOr (v : Value) (w : World) : (Instr.typeAssert (.iface 104 v) 34 143 true).run Tryz.prog w = .ok (.tuple #[.slice none 0 0, .bool false]) w := by kernel_rfl
@[go_sem] theorem asNotConst (v : Value) (w : World) : (Instr.typeAssert (.iface 59 v) 34 100 true).run Tryz.prog w = .ok (.tuple #[.bool false, .bool false]) w := by kernel_rfl
@[go_sem] theorem asNotBit (v : Value) (w : World) : (Instr.typeAssert (.iface 59 v) 34 102 true).run Tryz.prog w = .ok (.tuple #[.string ⟨#[]⟩, .bool false]) w := by kernel_rfl
@[go_sem] theorem asNotRise (v : Value) (w : World) : (Instr.typeAssert (.iface 59 v) 34 103 true).run Tryz.prog w = .ok (.tuple #[.string ⟨#[]⟩, .bool false]) w := by kernel_rfl
@[go_sem] theorem asNotFall (v : Value) (w : World) : (Instr.typeAssert (.iface 59 v) 34 104 true).run Tryz.prog w = .ok (.tuple #[.string ⟨#[]⟩, .bool false]) w := by kernel_rfl
@[go_sem] theorem asNotNot (v : Value) (w : World) : (Instr.typeAssert (.iface 59 v) 34 59 true).run Tryz.prog w = .ok (.tuple #[v, .bool true]) w := by kernel_rfl
@[go_sem] theorem asNotAnd (v : Value) (w : World) : (Instr.typeAssert (.iface 59 v) 34 101 true).run Tryz.prog w = .ok (.tuple #[.slice none 0 0, .bool false]) w := by kernel_rfl
@[go_sem] theorem asNotOr (v : Value) (w : World) : (Instr.typeAssert (.iface 59 v) 34 143 true).run Tryz.prog w = .ok (.tuple #[.slice none 0 0, .bool false]) w := by kernel_rfl
@[go_sem] theorem asAndConst (v : Value) (w : World) : (Instr.typeAssert (.iface 101 v) 34 100 true).run Tryz.prog w = .ok (.tuple #[.bool false, .bool false]) w := by kernel_rfl
@[go_sem] theorem asAndBit (v : Value) (w : World) : (Instr.typeAssert (.iface 101 v) 34 102 true).run Tryz.prog w = .ok (.tuple #[.string ⟨#[]⟩, .bool false]) w := by kernel_rfl
@[go_sem] theorem asAndRise (v : Value) (w : World) : (Instr.typeAssert (.iface 101 v) 34 103 true).run Tryz.prog w = .ok (.tuple #[.string ⟨#[]⟩, .bool false]) w := by kernel_rfl
@[go_sem] theorem asAndFall (v : Value) (w : World) : (Instr.typeAssert (.iface 101 v) 34 104 true).run Tryz.prog w = .ok (.tuple #[.string ⟨#[]⟩, .bool false]) w := by kernel_rfl
@[go_sem] theorem asAndNot (v : Value) (w : World) : (Instr.typeAssert (.iface 101 v) 34 59 true).run Tryz.prog w = .ok (.tuple #[.agg #[.nilIface], .bool false]) w := by kernel_rfl
@[go_sem] theorem asAndAnd (v : Value) (w : World) : (Instr.typeAssert (.iface 101 v) 34 101 true).run Tryz.prog w = .ok (.tuple #[v, .bool true]) w := by kernel_rfl
@[go_sem] theorem asAndOr (v : Value) (w : World) : (Instr.typeAssert (.iface 101 v) 34 143 true).run Tryz.prog w = .ok (.tuple #[.slice none 0 0, .bool false]) w := by kernel_rfl
@[go_sem] theorem asOrConst (v : Value) (w : World) : (Instr.typeAssert (.iface 143 v) 34 100 true).run Tryz.prog w = .ok (.tuple #[.bool false, .bool false]) w := by kernel_rfl
@[go_sem] theorem asOrBit (v : Value) (w : World) : (Instr.typeAssert (.iface 143 v) 34 102 true).run Tryz.prog w = .ok (.tuple #[.string ⟨#[]⟩, .bool false]) w := by kernel_rfl
@[go_sem] theorem asOrRise (v : Value) (w : World) : (Instr.typeAssert (.iface 143 v) 34 103 true).run Tryz.prog w = .ok (.tuple #[.string ⟨#[]⟩, .bool false]) w := by kernel_rfl
@[go_sem] theorem asOrFall (v : Value) (w : World) : (Instr.typeAssert (.iface 143 v) 34 104 true).run Tryz.prog w = .ok (.tuple #[.string ⟨#[]⟩, .bool false]) w := by kernel_rfl
@[go_sem] theorem asOrNot (v : Value) (w : World) : (Instr.typeAssert (.iface 143 v) 34 59 true).run Tryz.prog w = .ok (.tuple #[.agg #[.nilIface], .bool false]) w := by kernel_rfl
@[go_sem] theorem asOrAnd (v : Value) (w : World) : (Instr.typeAssert (.iface 143 v) 34 101 true).run Tryz.prog w = .ok (.tuple #[.slice none 0 0, .bool false]) w := by kernel_rfl
@[go_sem] theorem asOrOr (v : Value) (w : World) : (Instr.typeAssert (.iface 143 v) 34 143 true).run Tryz.prog w = .ok (.tuple #[v, .bool true]) w := by kernel_rfl
end
section
open Go.RowKit
theorem ret_str {a b : ByteArray} (h : a = b) : Ending.returned (.string a) = .returned (.string b) := by rw [h]
theorem IsEx.le7 {ok : Nat → Prop} {w : World} (x : Ex) (v : Value) (h : IsEx ok w x v) : x.kind ≤ 7 := by
  obtain ⟨k, nm, l⟩ := x
  match k, h with
  | 0, _ => simp
  | 1, _ => simp
  | 2, _ => simp
  | 3, _ => simp
  | 4, _ => simp
  | 5, _ => simp
  | 6, _ => simp
  | 7, _ => simp
  | n + 8, h => simp only [IsEx] at h
/-- an expression's rows lie in blocks that are there -/
theorem IsEx.lt {ok : Nat → Prop} {w : World} : ∀ (x : Ex) (v : Value), IsEx ok w x v → IsEx (fun g => ok g ∧ g < w.heap.size) w x v := by
  intro x
  induction x using Ex.ind with
  | h k nm l ih =>
    intro v h
    have sub : ∀ (i : Nat) (P : Value → Prop), (l.map fun x => IsEx (fun g => ok g ∧ g < w.heap.size) w x)[i]? = some P → ∃ Q : Value → Prop, (l.map fun x => IsEx ok w x)[i]? = some Q ∧ ∀ u, Q u → P u := by
      intro i P hP
      rw [List.getElem?_map] at hP
      cases hl : l[i]? with
      | none => rw [hl] at hP; simp at hP
      | some y =>
        rw [hl] at hP
        simp only [Option.map_some, Option.some.injEq] at hP
        exact ⟨IsEx ok w y, by rw [List.getElem?_map, hl]; rfl, fun u hu => by rw [← hP]; exact ih y (List.mem_of_getElem? hl) u hu⟩
    have hlist : ∀ t, IsList ok w t l.length (l.map fun x => IsEx ok w x) v → IsList (fun g => ok g ∧ g < w.heap.size) w t l.length (l.map fun x => IsEx (fun g => ok g ∧ g < w.heap.size) w x) v := by
      rintro t ⟨h1, h2, g, cap, h3, h4, h5, h6⟩
      have hg : g < w.heap.size := by
        obtain ⟨u, hu, _⟩ := h6 0 (IsEx ok w l[0]) (by rw [List.getElem?_map, List.getElem?_eq_getElem (by omega)]; rfl)
        exact World.block_lt_of_cell? _ _ hu
      refine ⟨h1, h2, g, cap, h3, h4, ⟨h5, hg⟩, ?_⟩
      intro i P hP
      obtain ⟨Q, hQ, hq⟩ := sub i P hP
      obtain ⟨u, hu, hx⟩ := h6 i Q hQ
      exact ⟨u, hu, hq u hx⟩
    match k, h with
    | 0, h => simp only [IsEx] at h ⊢; exact h
    | 1, h => simp only [IsEx] at h ⊢; exact h
    | 2, h => simp only [IsEx] at h ⊢; exact h
    | 3, h => simp only [IsEx] at h ⊢; exact h
    | 4, h => simp only [IsEx] at h ⊢; exact h
    | 5, h =>
      simp only [IsEx] at h ⊢
      obtain ⟨h1, h2, u, h3, h4⟩ := h
      refine ⟨h1, h2, u, h3, ?_⟩
      intro P hP
      obtain ⟨Q, hQ, hq⟩ := sub 0 P hP
      exact hq u (h4 Q hQ)
    | 6, h => simp only [IsEx] at h ⊢; exact ⟨h.1, hlist _ h.2⟩
    | 7, h => simp only [IsEx] at h ⊢; exact ⟨h.1, hlist _ h.2⟩
    | n + 8, h => simp only [IsEx] at h
/-- an expression is an interface value -/
theorem IsEx.iface {ok : Nat → Prop} {w : World} (x : Ex) (v : Value) (h : IsEx ok w x v) : ∃ t y, v = .iface t y := by
  obtain ⟨k, nm, l⟩ := x
  match k, h with
  | 0, h => simp only [IsEx] at h; exact ⟨_, _, h.2.2⟩
  | 1, h => simp only [IsEx] at h; exact ⟨_, _, h.2.2⟩
  | 2, h => simp only [IsEx] at h; exact ⟨_, _, h.2.2⟩
  | 3, h => simp only [IsEx] at h; exact ⟨_, _, h.2.2⟩
  | 4, h => simp only [IsEx] at h; exact ⟨_, _, h.2.2⟩
  | 5, h => simp only [IsEx] at h; obtain ⟨_, _, u, h, _⟩ := h; exact ⟨_, _, h⟩
  | 6, h => simp only [IsEx] at h; obtain ⟨_, _, _, _, _, h, _⟩ := h; exact ⟨_, _, h⟩
  | 7, h => simp only [IsEx] at h; obtain ⟨_, _, _, _, _, h, _⟩ := h; exact ⟨_, _, h⟩
  | n + 8, h => simp only [IsEx] at h
/-- a function that is there -/
def Entered (K : Nat) : Prop := ∀ (args : Array Value) (w : World), (callFunc K args).run Tryz.prog w = .ok (.enter K args) w
end
end Go.Proofs.YtgdmohombcgjbaaGreatDoor
